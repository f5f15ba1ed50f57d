/- The walk of keepItem of Book (of the statements own): an item is laid to those that wait, and a copy of it to what they were. -/
import Derived.Test.YtplfjengfhijhaaKeep0
namespace Go.Proofs.Ytplfjengfhijhaa
open Go.RowKit

set_option maxRecDepth 100000 in
set_option maxHeartbeats 3200000 in
theorem keep_any (w : World) (c : Nat → Nat) (B : Nat) (it wi we : Value) (Q : Nat) (l : List Itm) (v : Value) (t : Itm) (lo hi : Nat) (hB : BookSt w c B it wi we Q) (h3 : WaitRow w c 3 wi l) (h4 : WaitRow w c 4 we l)
    (hown : Own 24 w 1001 lo hi v t) (hhi : hi ≤ w.heap.size) (hcw : ∀ k, lo ≤ k → k < hi → c k = 3 + 10 * (l.length + 1)) (hl : l.length ≤ 1000) (hcnt : Itm.cnt t ≤ 100000) :
    Calls Try.prog 14 #[.pointer (some ⟨B, 0, none⟩), v] w (KeepPost c B it Q l t w) := by
  obtain ⟨a3, cap3, rfl⟩ := h3.shape
  obtain ⟨a4, cap4, rfl⟩ := h4.shape
  obtain ⟨a0, cap0, rfl⟩ := own_shape hown
  obtain ⟨b2, b7, b8, _⟩ := hB.cells
  have bf := hB.nils.2.2.2.2.2.2
  have bf7 := bf 7
  have hBlt := hB.lt
  obtain ⟨xs, hx⟩ := h3
  have HX : Hid (WRx w c 3 (.slice a3 l.length cap3) l xs) := hx
  have HB := hid hB
  have H4 := hid h4
  have HO := hid hown
  have HHI := hid hhi
  have HCW := hid hcw
  have HL := hid hl
  have HCT := hid hcnt
  have i1 : (0 : Int) ≤ (l.length : Int) := by omega
  have i2 : (l.length : Int) < (l.length : Int) + 1 := by omega
  have i3 : (l.length : Int) ≤ 9223372036854775807 := by omega
  have hBX : ¬ B = w.heap.size := by omega
  clear hB b2 b8 bf hx h4 hown hhi hcw hl hcnt
  go_enter Try.func14, Try.ntmps14
  go_upto_region 1 with fail
  go_cut [] from 4 (fun wx => Hid (∃ c1 wi1, KeepMid c w B it (.slice a4 l.length cap4) Q l t (.bool t.list) (.string ⟨t.bytes.toArray⟩) (.slice a0 t.items.length cap0) lo hi wx c1 wi1))
  case first =>
    have HW : Hid (Below w.heap.size w ((w.alloc (.cells #[.bool t.list, .string ⟨t.bytes.toArray⟩, .slice a0 t.items.length cap0] 24)).drew.alloc (.cells #[.bool false, .string ⟨#[]⟩, .slice none 0 0] 24))) := (((Below.refl _ _).alloc (Nat.le_refl _) _).drew).alloc (by simp) _
    have HWX : Hid (((w.alloc (.cells #[.bool t.list, .string ⟨t.bytes.toArray⟩, .slice a0 t.items.length cap0] 24)).drew.alloc (.cells #[.bool false, .string ⟨#[]⟩, .slice none 0 0] 24)).heap[w.heap.size]? = some (.cells #[.bool t.list, .string ⟨t.bytes.toArray⟩, .slice a0 t.items.length cap0] 24 (0, 0))) := by
      rw [Hid, Below.heap_alloc _ _ _ (by simp)]; exact heap_alloc_new _ _
    have HWL : Hid (((w.alloc (.cells #[.bool t.list, .string ⟨t.bytes.toArray⟩, .slice a0 t.items.length cap0] 24)).drew.alloc (.cells #[.bool false, .string ⟨#[]⟩, .slice none 0 0] 24)).heap[w.heap.size + 1]? = some (.cells #[.bool false, .string ⟨#[]⟩, .slice none 0 0] 24 (0, 0))) := by
      have := heap_alloc_new ((w.alloc (.cells #[.bool t.list, .string ⟨t.bytes.toArray⟩, .slice a0 t.items.length cap0] 24)).drew) (.cells #[.bool false, .string ⟨#[]⟩, .slice none 0 0] 24)
      rw [Hid]; simpa using this
    have HR : Hid (WRx ((w.alloc (.cells #[.bool t.list, .string ⟨t.bytes.toArray⟩, .slice a0 t.items.length cap0] 24)).drew.alloc (.cells #[.bool false, .string ⟨#[]⟩, .slice none 0 0] 24)) (paint c w.heap.size) 3 (.slice a3 l.length cap3) l xs) := wrx_later HX.out HW.out (fun k hk => paint_old _ hk)
    have HP : Hid (paint c w.heap.size B = 1) := by rw [Hid, paint_old _ hBlt]; exact HB.out.cb
    have HPX : Hid (paint c w.heap.size w.heap.size = 0) := paint_new _ (Nat.le_refl _)
    refine wp_region_L (fun w' => w'.cell? ⟨B, 7, none⟩ = some (.slice a3 l.length cap3) ∧ w'.cell? ⟨w.heap.size, 0, none⟩ = some (.bool t.list) ∧ w'.cell? ⟨w.heap.size, 1, none⟩ = some (.string ⟨t.bytes.toArray⟩) ∧ w'.cell? ⟨w.heap.size, 2, none⟩ = some (.slice a0 t.items.length cap0)) 7 (by kernel_rfl) ?_
    have hS : (fun w' : World => w'.cell? ⟨B, 7, none⟩ = some (.slice a3 l.length cap3) ∧ w'.cell? ⟨w.heap.size, 0, none⟩ = some (.bool t.list) ∧ w'.cell? ⟨w.heap.size, 1, none⟩ = some (.string ⟨t.bytes.toArray⟩) ∧ w'.cell? ⟨w.heap.size, 2, none⟩ = some (.slice a0 t.items.length cap0)) (w.alloc (.cells #[.bool t.list, .string ⟨t.bytes.toArray⟩, .slice a0 t.items.length cap0] 24)).drew := by dsimp only; go_keep
    refine wpAnyL_take (i := 0) (v := .pointer (some ⟨B, 0, none⟩)) rfl (by kernel_rfl) (by kernel_rfl) (by kernel_rfl) (by kernel_rfl) (by kernel_rfl) (fun _ _ _ h => h) hS (Or.inl ⟨by rfl, ?_⟩) ?_
    · (intro w' hSw; (try dsimp only at hSw); go_simp)
    try simp only [Act.put]
    refine wpAnyL_take (i := 1) (v := .pointer (some ⟨B, 0, none⟩)) rfl (by kernel_rfl) (by kernel_rfl) (by kernel_rfl) (by kernel_rfl) (by kernel_rfl) (fun _ _ _ h => h) hS (Or.inl ⟨by rfl, ?_⟩) ?_
    · (intro w' hSw; (try dsimp only at hSw); go_simp)
    try simp only [Act.put]
    refine wpAnyL_take (i := 2) (v := .pointer (some ⟨B, 7, none⟩)) rfl (by kernel_rfl) (by kernel_rfl) (by kernel_rfl) (by kernel_rfl) (by kernel_rfl) (fun _ _ _ h => h) hS (Or.inl ⟨by rfl, ?_⟩) ?_
    · (intro w' hSw; (try dsimp only at hSw); go_simp)
    try simp only [Act.put]
    refine wpAnyL_take (i := 3) (v := .slice a3 l.length cap3) rfl (by kernel_rfl) (by kernel_rfl) (by kernel_rfl) (by kernel_rfl) (by kernel_rfl) (fun _ _ _ h => h) hS (Or.inl ⟨by rfl, ?_⟩) ?_
    · (intro w' hSw; (try dsimp only at hSw); go_simp)
    try simp only [Act.put]
    refine wpAnyL_take (i := 4) (v := .agg #[.bool t.list, .string ⟨t.bytes.toArray⟩, .slice a0 t.items.length cap0]) rfl (by kernel_rfl) (by kernel_rfl) (by kernel_rfl) (by kernel_rfl) (by kernel_rfl) (fun _ _ _ h => h) hS (Or.inl ⟨by rfl, ?_⟩) ?_
    · (intro w' hSw; (try dsimp only at hSw); go_simp)
    try simp only [Act.put]
    refine wpAnyL_take (i := 5) (v := .int .i64 l.length) rfl (by kernel_rfl) (by kernel_rfl) (by kernel_rfl) (by kernel_rfl) (by kernel_rfl) (fun _ _ _ h => h) hS (Or.inl ⟨by rfl, ?_⟩) ?_
    · (intro w' hSw; (try dsimp only at hSw); go_simp)
    try simp only [Act.put]
    refine wpAnyL_ready (rs := [6]) (by kernel_rfl) (by simp) ?_
    refine AllReadyL.cons rfl (fun K hK => ?_) AllReadyL.nil
    go_simp
    refine hK.out _ _ (by dsimp only at hS ⊢; go_keep) ?_
    clear hK K hS
    try simp only [Act.put]
    refine wpAnyL_ready (rs := [7]) (by kernel_rfl) (by simp) ?_
    refine AllReadyL.last rfl (fun K hK => ?_)
    refine step_push rfl (.tmp 7) (.tmp 10) rfl (w.heap.size + 1) rfl rfl HR.out.1 HWL.out HL.out ?_
    intro g cap w1 hown1 hgrow hat hlt
    obtain ⟨⟨r0, r1, r2⟩, ⟨q0, q1, q2⟩, ⟨cB1, fB1⟩, ⟨x0, x1, x2⟩, n1, n2, n3, n4, n5, n6⟩ := keep_app (.inl rfl) HR.out HP.out HPX.out ((HW.out.block B hBlt).trans HB.out.bk) (f := 7) rfl HWX.out hown1 hgrow hat
    have HM : Hid (∀ wF, Stored w1 wF g l.length B 7 (.slice (some ⟨g, 0, none⟩) (l.length + 1) cap) (.bool t.list) (.string ⟨t.bytes.toArray⟩) (.slice a0 t.items.length cap0) → ∃ c1 wi1, KeepMid c w B it (.slice a4 l.length cap4) Q l t (.bool t.list) (.string ⟨t.bytes.toArray⟩) (.slice a0 t.items.length cap0) lo hi wF c1 wi1) := (fun wF hst => keep_mid HB.out HX.out H4.out HO.out HHI.out HCW.out HW.out HWX.out hown1 hgrow hat hst)
    clear hown1 hgrow hat
    refine hK.out _ _ ?_
    clear hK K HB HX H4 HO HHI HCW HW HWX HWL HR HP HPX HCT HL b7 bf7 x0 x1 x2
    try simp only [Act.put]
    refine wpAny_take (i := 8) (v := .pointer (some ⟨g, l.length * 3, none⟩)) rfl (by kernel_rfl) (by kernel_rfl) (by kernel_rfl) (fun _ _ _ h => h) (Or.inl ⟨by rfl, ?_⟩) ?_
    · (intro w' ;  go_simp)
    try simp only [Act.put]
    refine wpAny_take (i := 10) (v := .pointer (some ⟨B, 0, none⟩)) rfl (by kernel_rfl) (by kernel_rfl) (by kernel_rfl) (fun _ _ _ h => h) (Or.inl ⟨by rfl, ?_⟩) ?_
    · (intro w' ;  go_simp)
    try simp only [Act.put]
    refine wpAny_take (i := 11) (v := .pointer (some ⟨B, 7, none⟩)) rfl (by kernel_rfl) (by kernel_rfl) (by kernel_rfl) (fun _ _ _ h => h) (Or.inl ⟨by rfl, ?_⟩) ?_
    · (intro w' ;  go_simp)
    try simp only [Act.put]
    refine wpAny_ready (rs := [9, 12]) (by kernel_rfl) (by simp) ?_
    refine AllReady.cons rfl (fun K hK => ?_) (AllReady.cons rfl (fun K hK => ?_) AllReady.nil)
    · go_simp
      refine hK _ _ ?_
      clear hK K
      try simp only [Act.put]
      refine wpAny_ready (rs := [12]) (by kernel_rfl) (by simp) ?_
      refine AllReady.cons rfl (fun K hK => ?_) AllReady.nil
      go_simp
      refine hK _ _ ?_
      clear hK K
      refine wpAny_done (by kernel_rfl) ?_ _
      go_wp2_with fail
      go_meet
      exact HM.out _ (stored_first w1 n1 _ _ _ _)
    · go_simp
      refine hK _ _ ?_
      clear hK K
      try simp only [Act.put]
      refine wpAny_ready (rs := [9]) (by kernel_rfl) (by simp) ?_
      refine AllReady.cons rfl (fun K hK => ?_) AllReady.nil
      go_simp
      refine hK _ _ ?_
      clear hK K
      refine wpAny_done (by kernel_rfl) ?_ _
      go_wp2_with fail
      go_meet
      exact HM.out _ (stored_last w1 n1 _ _ _ _)
  case rest =>
    obtain ⟨c1, wi1, km⟩ := hcut.out
    obtain ⟨_, _, y8, _⟩ := km.book.cells
    have yf8 := km.book.nils.2.2.2.2.2.2 8
    have hBc : B < wc.heap.size := km.book.lt
    have hXc : w.heap.size < wc.heap.size := (Array.getElem?_eq_some_iff.1 km.box).1
    have x0 : wc.cell? ⟨w.heap.size, 0, none⟩ = some (.bool t.list) := by rw [cell_of_row _ _ 0 _ _ _ km.box]; rfl
    have x1 : wc.cell? ⟨w.heap.size, 1, none⟩ = some (.string ⟨t.bytes.toArray⟩) := by rw [cell_of_row _ _ 1 _ _ _ km.box]; rfl
    have x2 : wc.cell? ⟨w.heap.size, 2, none⟩ = some (.slice a0 t.items.length cap0) := by rw [cell_of_row _ _ 2 _ _ _ km.box]; rfl
    obtain ⟨xs4, hx4⟩ := km.row4
    have HX4 : Hid (WRx wc c1 4 (.slice a4 l.length cap4) l xs4) := hx4
    have KM := hid km
    have HIC : Hid (hi ≤ wc.heap.size) := by rw [Hid]; have := HHI.out; omega
    have HC : Hid (∀ W', (∀ k, lo ≤ k → k < hi → W'.heap[k]? = wc.heap[k]?) → wc.heap.size ≤ W'.heap.size → Calls Try.prog 26 #[.agg #[.bool t.list, .string ⟨t.bytes.toArray⟩, .slice a0 t.items.length cap0]] W' fun e w' => ∃ a5 cap5, e = .returned (.agg #[.bool t.list, .string ⟨t.bytes.toArray⟩, .slice a5 t.items.length cap5]) ∧ Own 24 w' 1001 W'.heap.size w'.heap.size (.agg #[.bool t.list, .string ⟨t.bytes.toArray⟩, .slice a5 t.items.length cap5]) t ∧ Below W'.heap.size W' w') := fun W' h hs => keep_copied KM.out.own (Nat.le_trans HIC.out hs) h HCT.out
    have HW0 : Hid (Below wc.heap.size wc (wc.drew.alloc (.cells #[.bool false, .string ⟨#[]⟩, .slice none 0 0] 24))) := ((Below.refl _ _).drew).alloc (Nat.le_refl _) _
    have HL0 : Hid ((wc.drew.alloc (.cells #[.bool false, .string ⟨#[]⟩, .slice none 0 0] 24)).heap[wc.heap.size]? = some (.cells #[.bool false, .string ⟨#[]⟩, .slice none 0 0] 24 (0, 0))) := heap_alloc_new wc.drew (.cells #[.bool false, .string ⟨#[]⟩, .slice none 0 0] 24)
    have HLT0 : Hid (wc.heap.size < (wc.drew.alloc (.cells #[.bool false, .string ⟨#[]⟩, .slice none 0 0] 24)).heap.size) := (Array.getElem?_eq_some_iff.1 HL0.out).1
    have HR0 : Hid (WRx (wc.drew.alloc (.cells #[.bool false, .string ⟨#[]⟩, .slice none 0 0] 24)) (paint c1 wc.heap.size) 4 (.slice a4 l.length cap4) l xs4) := wrx_later HX4.out HW0.out (fun k hk => paint_old _ hk)
    have HP : Hid (paint c1 wc.heap.size B = 1) := by rw [Hid, paint_old _ hBc]; exact KM.out.book.cb
    have HPX : Hid (paint c1 wc.heap.size w.heap.size = 0) := by rw [Hid, paint_old _ hXc]; exact KM.out.cbox
    clear km hx4 hcut b7 bf7 HX HB H4 HO
    go_upto_region 2 with fail
    refine wp_region_L (fun w' => w'.cell? ⟨B, 8, none⟩ = some (.slice a4 l.length cap4) ∧ w'.cell? ⟨w.heap.size, 0, none⟩ = some (.bool t.list) ∧ w'.cell? ⟨w.heap.size, 1, none⟩ = some (.string ⟨t.bytes.toArray⟩) ∧ w'.cell? ⟨w.heap.size, 2, none⟩ = some (.slice a0 t.items.length cap0)) 8 (by kernel_rfl) ?_
    have hS : (fun w' : World => w'.cell? ⟨B, 8, none⟩ = some (.slice a4 l.length cap4) ∧ w'.cell? ⟨w.heap.size, 0, none⟩ = some (.bool t.list) ∧ w'.cell? ⟨w.heap.size, 1, none⟩ = some (.string ⟨t.bytes.toArray⟩) ∧ w'.cell? ⟨w.heap.size, 2, none⟩ = some (.slice a0 t.items.length cap0)) wc.drew := by dsimp only; go_keep
    refine wpAnyL_take (i := 0) (v := .pointer (some ⟨B, 0, none⟩)) rfl (by kernel_rfl) (by kernel_rfl) (by kernel_rfl) (by kernel_rfl) (by kernel_rfl) (fun _ _ _ h => h) hS (Or.inl ⟨by rfl, ?_⟩) ?_
    · (intro w' hSw; (try dsimp only at hSw); go_simp)
    try simp only [Act.put]
    refine wpAnyL_take (i := 1) (v := .pointer (some ⟨B, 0, none⟩)) rfl (by kernel_rfl) (by kernel_rfl) (by kernel_rfl) (by kernel_rfl) (by kernel_rfl) (fun _ _ _ h => h) hS (Or.inl ⟨by rfl, ?_⟩) ?_
    · (intro w' hSw; (try dsimp only at hSw); go_simp)
    try simp only [Act.put]
    refine wpAnyL_take (i := 2) (v := .pointer (some ⟨B, 8, none⟩)) rfl (by kernel_rfl) (by kernel_rfl) (by kernel_rfl) (by kernel_rfl) (by kernel_rfl) (fun _ _ _ h => h) hS (Or.inl ⟨by rfl, ?_⟩) ?_
    · (intro w' hSw; (try dsimp only at hSw); go_simp)
    try simp only [Act.put]
    refine wpAnyL_take (i := 3) (v := .slice a4 l.length cap4) rfl (by kernel_rfl) (by kernel_rfl) (by kernel_rfl) (by kernel_rfl) (by kernel_rfl) (fun _ _ _ h => h) hS (Or.inl ⟨by rfl, ?_⟩) ?_
    · (intro w' hSw; (try dsimp only at hSw); go_simp)
    try simp only [Act.put]
    refine wpAnyL_take (i := 4) (v := .agg #[.bool t.list, .string ⟨t.bytes.toArray⟩, .slice a0 t.items.length cap0]) rfl (by kernel_rfl) (by kernel_rfl) (by kernel_rfl) (by kernel_rfl) (by kernel_rfl) (fun _ _ _ h => h) hS (Or.inl ⟨by rfl, ?_⟩) ?_
    · (intro w' hSw; (try dsimp only at hSw); go_simp)
    try simp only [Act.put]
    refine wpAnyL_take (i := 6) (v := .int .i64 l.length) rfl (by kernel_rfl) (by kernel_rfl) (by kernel_rfl) (by kernel_rfl) (by kernel_rfl) (fun _ _ _ h => h) hS (Or.inl ⟨by rfl, ?_⟩) ?_
    · (intro w' hSw; (try dsimp only at hSw); go_simp)
    try simp only [Act.put]
    refine wpAnyL_ready (rs := [5, 7]) (by kernel_rfl) (by simp) ?_
    refine AllReadyL.cons rfl (fun K hK => ?_) (AllReadyL.cons rfl (fun K hK => ?_) AllReadyL.nil)
    · go_simp
      refine (HC.out wc.drew (fun k _ _ => rfl) (Nat.le_refl _)).mono ?_
      rintro e w2 ⟨a5, cap5, rfl, hit, hbel⟩
      have HB2 : Hid (Below wc.heap.size wc w2) := below_undrew hbel
      obtain ⟨hcc, hff⟩ := bcell HB2.out
      have c8 := (hcc B 8 hBc).trans y8
      have f8 := (hff B 8 hBc).trans yf8
      have z0 := (hcc w.heap.size 0 hXc).trans x0
      have z1 := (hcc w.heap.size 1 hXc).trans x1
      have z2 := (hcc w.heap.size 2 hXc).trans x2
      have HI2 : Hid (Own 24 w2 1001 wc.heap.size w2.heap.size (.agg #[.bool t.list, .string ⟨t.bytes.toArray⟩, .slice a5 t.items.length cap5]) t) := hit
      clear hbel hit
      try go_wp2_with fail
      refine hK.out _ _ ⟨c8, z0, z1, z2⟩ ?_
      clear hK K
      try simp only [Act.put]
      refine wpAnyL_ready (rs := [7]) (by kernel_rfl) (by simp) ?_
      refine AllReadyL.cons rfl (fun K hK => ?_) AllReadyL.nil
      go_simp
      refine hK.out _ _ (by go_keep) ?_
      clear hK K
      try simp only [Act.put]
      refine wpAnyL_ready (rs := [8]) (by kernel_rfl) (by simp) ?_
      refine AllReadyL.last rfl (fun K hK => ?_)
      have HWa : Hid (Below wc.heap.size wc (w2.alloc (.cells #[.bool false, .string ⟨#[]⟩, .slice none 0 0] 24))) := HB2.out.alloc HB2.out.size _
      refine step_push rfl (.tmp 18) (.tmp 22) rfl w2.heap.size rfl rfl (owns_below (owns_below HX4.out.1 HB2.out) ((Below.refl _ _).alloc (Nat.le_refl _) _)) (heap_alloc_new w2 (.cells #[.bool false, .string ⟨#[]⟩, .slice none 0 0] 24)) HL.out ?_
      intro g cap w1 hown1 hgrow hat hlt
      obtain ⟨⟨r0, r1, r2⟩, ⟨q0, q1, q2⟩, ⟨cB1, fB1⟩, ⟨u0, u1, u2⟩, n1, n2, n3, n4, n5, n6⟩ := keep_app (.inr rfl) (wrx_later HX4.out HWa.out (fun k hk => paint_old _ hk)) HP.out HPX.out ((HWa.out.block B hBc).trans KM.out.book.bk) (f := 8) rfl ((HWa.out.block _ hXc).trans KM.out.box) hown1 hgrow hat
      have HE : Hid (∀ wF, Stored w1 wF g l.length B 8 (.slice (some ⟨g, 0, none⟩) (l.length + 1) cap) (.bool t.list) (.string ⟨t.bytes.toArray⟩) (.slice a5 t.items.length cap5) → KeepPost c B it Q l t w (.returned (.tuple #[])) wF) := (fun wF hst => keep_end_ca KM.out HX4.out HWa.out (Nat.le_refl _) (keep_le w2 _) (own_frame _ _ _ _ _ (fun k _ h2 => Below.heap_alloc _ _ _ h2) HI2.out) hown1 hgrow hat hst)
      clear HWa
      clear hown1 hgrow hat
      refine hK.out _ _ ?_
      clear hK K hS HX4 KM HIC HC HW0 HL0 HLT0 HR0 HP HPX HHI HCW HL HCT y8 yf8 x0 x1 x2 c8 f8 z0 z1 z2 u0 u1 u2 hBc hXc HB2 HI2 hcc hff
      try simp only [Act.put]
      refine wpAny_take (i := 9) (v := .pointer (some ⟨g, l.length * 3, none⟩)) rfl (by kernel_rfl) (by kernel_rfl) (by kernel_rfl) (fun _ _ _ h => h) (Or.inl ⟨by rfl, ?_⟩) ?_
      · (intro w' ;  go_simp)
      try simp only [Act.put]
      refine wpAny_take (i := 11) (v := .pointer (some ⟨B, 0, none⟩)) rfl (by kernel_rfl) (by kernel_rfl) (by kernel_rfl) (fun _ _ _ h => h) (Or.inl ⟨by rfl, ?_⟩) ?_
      · (intro w' ;  go_simp)
      try simp only [Act.put]
      refine wpAny_take (i := 12) (v := .pointer (some ⟨B, 8, none⟩)) rfl (by kernel_rfl) (by kernel_rfl) (by kernel_rfl) (fun _ _ _ h => h) (Or.inl ⟨by rfl, ?_⟩) ?_
      · (intro w' ;  go_simp)
      try simp only [Act.put]
      refine wpAny_ready (rs := [10, 13]) (by kernel_rfl) (by simp) ?_
      refine AllReady.cons rfl (fun K hK => ?_) (AllReady.cons rfl (fun K hK => ?_) AllReady.nil)
      · go_simp
        refine hK _ _ ?_
        clear hK K
        try simp only [Act.put]
        refine wpAny_ready (rs := [13]) (by kernel_rfl) (by simp) ?_
        refine AllReady.cons rfl (fun K hK => ?_) AllReady.nil
        go_simp
        refine hK _ _ ?_
        clear hK K
        refine wpAny_done (by kernel_rfl) ?_ _
        go_wp2_with fail
        refine bodyPost_ret (v := .tuple #[]) (by simp [results, Try.results14, go_sem]) rfl ?_
        exact HE.out _ (stored_first _ n1 _ _ _ _)
      · go_simp
        refine hK _ _ ?_
        clear hK K
        try simp only [Act.put]
        refine wpAny_ready (rs := [10]) (by kernel_rfl) (by simp) ?_
        refine AllReady.cons rfl (fun K hK => ?_) AllReady.nil
        go_simp
        refine hK _ _ ?_
        clear hK K
        refine wpAny_done (by kernel_rfl) ?_ _
        go_wp2_with fail
        refine bodyPost_ret (v := .tuple #[]) (by simp [results, Try.results14, go_sem]) rfl ?_
        exact HE.out _ (stored_last _ n1 _ _ _ _)
    · go_simp
      refine hK.out _ _ (by go_keep) ?_
      clear hK K
      try simp only [Act.put]
      refine wpAnyL_ready (rs := [5]) (by kernel_rfl) (by simp) ?_
      refine AllReadyL.cons rfl (fun K hK => ?_) AllReadyL.nil
      go_simp
      refine (HC.out (wc.drew.alloc (.cells #[.bool false, .string ⟨#[]⟩, .slice none 0 0] 24)) (fun k _ h2 => HW0.out.block k (Nat.lt_of_lt_of_le h2 HIC.out)) HW0.out.size).mono ?_
      rintro e w2 ⟨a5, cap5, rfl, hit, hbel⟩
      have HB2 : Hid (Below wc.heap.size wc w2) := HW0.out.trans (hbel.mono HW0.out.size)
      obtain ⟨hcc, hff⟩ := bcell HB2.out
      have c8 := (hcc B 8 hBc).trans y8
      have f8 := (hff B 8 hBc).trans yf8
      have z0 := (hcc w.heap.size 0 hXc).trans x0
      have z1 := (hcc w.heap.size 1 hXc).trans x1
      have z2 := (hcc w.heap.size 2 hXc).trans x2
      have HL2 : Hid (w2.heap[wc.heap.size]? = some (.cells #[.bool false, .string ⟨#[]⟩, .slice none 0 0] 24 (0, 0))) := (hbel.block _ HLT0.out).trans HL0.out
      have HI2 : Hid (Own 24 w2 1001 (wc.drew.alloc (.cells #[.bool false, .string ⟨#[]⟩, .slice none 0 0] 24)).heap.size w2.heap.size (.agg #[.bool t.list, .string ⟨t.bytes.toArray⟩, .slice a5 t.items.length cap5]) t) := hit
      clear hbel hit
      try go_wp2_with fail
      refine hK.out _ _ ⟨c8, z0, z1, z2⟩ ?_
      clear hK K
      try simp only [Act.put]
      refine wpAnyL_ready (rs := [8]) (by kernel_rfl) (by simp) ?_
      refine AllReadyL.last rfl (fun K hK => ?_)
      refine step_push rfl (.tmp 18) (.tmp 22) rfl wc.heap.size rfl rfl (owns_below HX4.out.1 HB2.out) HL2.out HL.out ?_
      intro g cap w1 hown1 hgrow hat hlt
      obtain ⟨⟨r0, r1, r2⟩, ⟨q0, q1, q2⟩, ⟨cB1, fB1⟩, ⟨u0, u1, u2⟩, n1, n2, n3, n4, n5, n6⟩ := keep_app (.inr rfl) (wrx_later HX4.out HB2.out (fun k hk => paint_old _ hk)) HP.out HPX.out ((HB2.out.block B hBc).trans KM.out.book.bk) (f := 8) rfl ((HB2.out.block _ hXc).trans KM.out.box) hown1 hgrow hat
      have HE : Hid (∀ wF, Stored w1 wF g l.length B 8 (.slice (some ⟨g, 0, none⟩) (l.length + 1) cap) (.bool t.list) (.string ⟨t.bytes.toArray⟩) (.slice a5 t.items.length cap5) → KeepPost c B it Q l t w (.returned (.tuple #[])) wF) := (fun wF hst => keep_end_ca KM.out HX4.out HB2.out HW0.out.size (Nat.le_refl _) HI2.out hown1 hgrow hat hst)
      clear HL2
      clear hown1 hgrow hat
      refine hK.out _ _ ?_
      clear hK K hS HX4 KM HIC HC HW0 HL0 HLT0 HR0 HP HPX HHI HCW HL HCT y8 yf8 x0 x1 x2 c8 f8 z0 z1 z2 u0 u1 u2 hBc hXc HB2 HI2 hcc hff
      try simp only [Act.put]
      refine wpAny_take (i := 9) (v := .pointer (some ⟨g, l.length * 3, none⟩)) rfl (by kernel_rfl) (by kernel_rfl) (by kernel_rfl) (fun _ _ _ h => h) (Or.inl ⟨by rfl, ?_⟩) ?_
      · (intro w' ;  go_simp)
      try simp only [Act.put]
      refine wpAny_take (i := 11) (v := .pointer (some ⟨B, 0, none⟩)) rfl (by kernel_rfl) (by kernel_rfl) (by kernel_rfl) (fun _ _ _ h => h) (Or.inl ⟨by rfl, ?_⟩) ?_
      · (intro w' ;  go_simp)
      try simp only [Act.put]
      refine wpAny_take (i := 12) (v := .pointer (some ⟨B, 8, none⟩)) rfl (by kernel_rfl) (by kernel_rfl) (by kernel_rfl) (fun _ _ _ h => h) (Or.inl ⟨by rfl, ?_⟩) ?_
      · (intro w' ;  go_simp)
      try simp only [Act.put]
      refine wpAny_ready (rs := [10, 13]) (by kernel_rfl) (by simp) ?_
      refine AllReady.cons rfl (fun K hK => ?_) (AllReady.cons rfl (fun K hK => ?_) AllReady.nil)
      · go_simp
        refine hK _ _ ?_
        clear hK K
        try simp only [Act.put]
        refine wpAny_ready (rs := [13]) (by kernel_rfl) (by simp) ?_
        refine AllReady.cons rfl (fun K hK => ?_) AllReady.nil
        go_simp
        refine hK _ _ ?_
        clear hK K
        refine wpAny_done (by kernel_rfl) ?_ _
        go_wp2_with fail
        refine bodyPost_ret (v := .tuple #[]) (by simp [results, Try.results14, go_sem]) rfl ?_
        exact HE.out _ (stored_first _ n1 _ _ _ _)
      · go_simp
        refine hK _ _ ?_
        clear hK K
        try simp only [Act.put]
        refine wpAny_ready (rs := [10]) (by kernel_rfl) (by simp) ?_
        refine AllReady.cons rfl (fun K hK => ?_) AllReady.nil
        go_simp
        refine hK _ _ ?_
        clear hK K
        refine wpAny_done (by kernel_rfl) ?_ _
        go_wp2_with fail
        refine bodyPost_ret (v := .tuple #[]) (by simp [results, Try.results14, go_sem]) rfl ?_
        exact HE.out _ (stored_last _ n1 _ _ _ _)
end Go.Proofs.Ytplfjengfhijhaa
