/- Part 12 of a proof: what the last text needs. -/
import Derived.Test.YtbmohenjphmlgaaGreatPart11
/- The walks of readLeaf and readExtension (of the program). -/
namespace Go.Proofs.YtbmohenjphmlgaaGreat
open Go.RowKit
set_option maxRecDepth 100000

theorem beqE (s : ByteArray) : s.toList.isEmpty = decide (s.size = 0) := by
  rw [ByteArray.toList_eq, Bool.eq_iff_iff, List.isEmpty_iff, decide_eq_true_eq, ← ba_len]
  exact List.length_eq_zero_iff.symm

set_option maxHeartbeats 1600000 in
theorem readLeaf_any (b off cap : Nat) (l1 : Bool) (s1 : ByteArray) (x1 : Option Addr) (n1 c1 : Nat) (d : ByteArray) (w : World) (hb : b < w.heap.size)
    (h0 : w.cell? ⟨b, off + 3, none⟩ = some (.bool l1)) (h1 : w.cell? ⟨b, off + 4, none⟩ = some (.string s1)) (h2 : w.cell? ⟨b, off + 5, none⟩ = some (.slice x1 n1 c1)) :
    Calls Tryz.prog 151 #[.agg #[.bool true, .string ⟨#[]⟩, .slice (some ⟨b, off, none⟩) 2 cap], .string d] w fun e w' => e = .returned (.tuple #[leafV (some ⟨b, off, none⟩) cap d s1, .bool ((!l1 && decide (s1.size ≤ 40)) && decide (0 < s1.size))]) ∧ Below w.heap.size w w' := by
  have HV := hid (fun w => readValue_any l1 s1 x1 n1 c1 w)
  have HBA : Hid (Below w.heap.size w (w.alloc (.cells #[.bool true, .string ⟨#[]⟩, .slice (some ⟨b, off, none⟩) 2 cap] 119))) := (Below.refl _ _).alloc (Nat.le_refl _) _
  have g0 := (HBA.out.cell (p := ⟨b, off + 3, none⟩) hb).trans h0
  have g1 := (HBA.out.cell (p := ⟨b, off + 4, none⟩) hb).trans h1
  have g2 := (HBA.out.cell (p := ⟨b, off + 5, none⟩) hb).trans h2
  have HE : Hid (decide (0 < s1.size) = !s1.toList.isEmpty) := by
    rw [Hid, beqE]
    by_cases h : s1.size = 0
    · simp [h]
    · simp [h]; omega
  clear h0 h1 h2
  go_enter Tryz.func151, Tryz.ntmps151
  go_wp2_with fail
  refine (HV.out _).mono ?_
  rintro e w1 ⟨rfl, b1⟩
  have HB1 : Hid (Below w.heap.size w w1) := HBA.out.trans (b1.mono HBA.out.size)
  have hb0 := old_block b1
  have q0 := cell_of_row _ _ 0 _ _ _ hb0
  have q1 := cell_of_row _ _ 1 _ _ _ hb0
  have q2 := cell_of_row _ _ 2 _ _ _ hb0
  clear b1 hb0 g0 g1 g2
  obtain ⟨ok, hok⟩ : ∃ ok, ok = (!l1 && decide (s1.size ≤ 40)) := ⟨_, rfl⟩
  have HOK := hid hok
  rw [← hok]
  clear hok
  cases ok with
  | true =>
    go_wp2_with fail
    exact bodyPost_ret (v := .tuple #[leafV (some ⟨b, off, none⟩) cap d s1, .bool (!s1.toList.isEmpty)]) (by simp [results, Tryz.results151, go_sem, leafV]) rfl ⟨by rw [← HOK.out, HE.out]; rfl, HB1.out⟩
  | false =>
    go_wp2_with fail
    exact bodyPost_ret (v := .tuple #[leafV (some ⟨b, off, none⟩) cap d s1, .bool false]) (by simp [results, Tryz.results151, go_sem, leafV]) rfl ⟨by rw [← HOK.out]; rfl, HB1.out⟩

set_option maxHeartbeats 1600000 in
theorem readExtension_any (b off cap : Nat) (l1 : Bool) (s1 : ByteArray) (x1 : Option Addr) (n1 c1 : Nat) (d : ByteArray) (w : World) (hb : b < w.heap.size)
    (h0 : w.cell? ⟨b, off + 3, none⟩ = some (.bool l1)) (h1 : w.cell? ⟨b, off + 4, none⟩ = some (.string s1)) (h2 : w.cell? ⟨b, off + 5, none⟩ = some (.slice x1 n1 c1)) :
    Calls Tryz.prog 152 #[.agg #[.bool true, .string ⟨#[]⟩, .slice (some ⟨b, off, none⟩) 2 cap], .string d] w fun e w' => e = .returned (.tuple #[extV (some ⟨b, off, none⟩) cap d s1 .nilIface, .bool (decide (0 < d.size) && (!l1 && decide (s1.size = 8)))]) ∧ Below w.heap.size w w' := by
  have HV := hid (fun w => isSumP_any l1 s1 x1 n1 c1 w)
  have HBA : Hid (Below w.heap.size w (w.alloc (.cells #[.bool true, .string ⟨#[]⟩, .slice (some ⟨b, off, none⟩) 2 cap] 119))) := (Below.refl _ _).alloc (Nat.le_refl _) _
  have g0 := (HBA.out.cell (p := ⟨b, off + 3, none⟩) hb).trans h0
  have g1 := (HBA.out.cell (p := ⟨b, off + 4, none⟩) hb).trans h1
  have g2 := (HBA.out.cell (p := ⟨b, off + 5, none⟩) hb).trans h2
  have HE : Hid (decide (0 < d.size) = !d.toList.isEmpty) := by
    rw [Hid, beqE]
    by_cases h : d.size = 0
    · simp [h]
    · simp [h]; omega
  clear h0 h1 h2
  cases he : d.toList.isEmpty with
  | true =>
    rw [he] at HE
    go_enter Tryz.func152, Tryz.ntmps152
    go_wp2_with fail
    go_quiet (fail)
    go_wp2_with fail
    exact bodyPost_ret (v := .tuple #[extV (some ⟨b, off, none⟩) cap d s1 .nilIface, .bool false]) (by simp [results, Tryz.results152, go_sem, extV]) rfl ⟨by rw [HE.out]; rfl, below_drewN (belowA (belowA HBA.out _) _) _⟩
  | false =>
    rw [he] at HE
    go_enter Tryz.func152, Tryz.ntmps152
    go_wp2_with fail
    have HB3 : Hid (Below w.heap.size w (((w.alloc (.cells #[.bool true, .string ⟨#[]⟩, .slice (some ⟨b, off, none⟩) 2 cap] 119)).alloc (.cells #[.bool l1, .string s1, .slice x1 n1 c1] 119)).alloc (.cells #[.int .i64 2, .bool true, .string ⟨#[]⟩, .slice (some ⟨b, off, none⟩) 2 cap, .string d, .string s1, .nilIface] 176))) := belowA (belowA HBA.out _) _
    have hS : (fun w' : World => w'.heap[w.heap.size + 1]? = some (.cells #[.bool l1, .string s1, .slice x1 n1 c1] 119 (0, 0)) ∧ w'.heap[w.heap.size + 1 + 1]? = some (.cells #[.int .i64 2, .bool true, .string ⟨#[]⟩, .slice (some ⟨b, off, none⟩) 2 cap, .string d, .string s1, .nilIface] 176 (0, 0))) (((w.alloc (.cells #[.bool true, .string ⟨#[]⟩, .slice (some ⟨b, off, none⟩) 2 cap] 119)).alloc (.cells #[.bool l1, .string s1, .slice x1 n1 c1] 119)).alloc (.cells #[.int .i64 2, .bool true, .string ⟨#[]⟩, .slice (some ⟨b, off, none⟩) 2 cap, .string d, .string s1, .nilIface] 176)).drew := ⟨(Below.heap_alloc _ _ _ (by rw [alloc_size, alloc_size]; omega)).trans (block_alloc2 w _ _), by
      have := heap_alloc_new ((w.alloc (.cells #[.bool true, .string ⟨#[]⟩, .slice (some ⟨b, off, none⟩) 2 cap] 119)).alloc (.cells #[.bool l1, .string s1, .slice x1 n1 c1] 119)) (.cells #[.int .i64 2, .bool true, .string ⟨#[]⟩, .slice (some ⟨b, off, none⟩) 2 cap, .string d, .string s1, .nilIface] 176)
      rw [alloc_size, alloc_size] at this
      exact this⟩
    refine wp_region_L (fun w' => w'.heap[w.heap.size + 1]? = some (.cells #[.bool l1, .string s1, .slice x1 n1 c1] 119 (0, 0)) ∧ w'.heap[w.heap.size + 1 + 1]? = some (.cells #[.int .i64 2, .bool true, .string ⟨#[]⟩, .slice (some ⟨b, off, none⟩) 2 cap, .string d, .string s1, .nilIface] 176 (0, 0))) 9 (by kernel_rfl) ?_
    generalize ((w.alloc (.cells #[.bool true, .string ⟨#[]⟩, .slice (some ⟨b, off, none⟩) 2 cap] 119)).alloc (.cells #[.bool l1, .string s1, .slice x1 n1 c1] 119)).alloc (.cells #[.int .i64 2, .bool true, .string ⟨#[]⟩, .slice (some ⟨b, off, none⟩) 2 cap, .string d, .string s1, .nilIface] 176) = W3 at *
    refine wpAnyL_take (i := 0) (v := .agg #[.int .i64 2, .bool true, .string ⟨#[]⟩, .slice (some ⟨b, off, none⟩) 2 cap, .string d, .string s1, .nilIface]) rfl (by kernel_rfl) (by kernel_rfl) (by kernel_rfl) (by kernel_rfl) (by kernel_rfl) (fun _ _ _ h => h) hS (Or.inl ⟨by kernel_rfl, ?_⟩) ?_
    · intro w' hSw
      exact exec_load_row 176 (.tmp 7) rfl _ rfl _ _ (0, 0) _ hSw.2 Tryz.underlying176 rfl (by kernel_rfl)
    try simp only [Act.put]
    refine wpAnyL_take (i := 1) (v := .iface 176 (.agg #[.int .i64 2, .bool true, .string ⟨#[]⟩, .slice (some ⟨b, off, none⟩) 2 cap, .string d, .string s1, .nilIface])) rfl (by kernel_rfl) (by kernel_rfl) (by kernel_rfl) (by kernel_rfl) (by kernel_rfl) (fun _ _ _ h => h) hS (Or.inl ⟨by kernel_rfl, ?_⟩) ?_
    · (intro w' hSw; go_simp)
    try simp only [Act.put]
    refine wpAnyL_take (i := 2) (v := .string d) rfl (by kernel_rfl) (by kernel_rfl) (by kernel_rfl) (by kernel_rfl) (by kernel_rfl) (fun _ _ _ h => h) hS (Or.inl ⟨by kernel_rfl, ?_⟩) ?_
    · (intro w' hSw; go_simp)
    try simp only [Act.put]
    refine wpAnyL_take (i := 3) (v := .bool true) rfl (by kernel_rfl) (by kernel_rfl) (by kernel_rfl) (by kernel_rfl) (by kernel_rfl) (fun _ _ _ h => h) hS (Or.inl ⟨by kernel_rfl, ?_⟩) ?_
    · (intro w' hSw; go_simp)
    try simp only [Act.put]
    refine wpAnyL_take (i := 4) (v := .bool true) rfl (by kernel_rfl) (by kernel_rfl) (by kernel_rfl) (by kernel_rfl) (by kernel_rfl) (fun _ _ _ h => h) hS (Or.inl ⟨by kernel_rfl, ?_⟩) ?_
    · (intro w' hSw; go_simp)
    try simp only [Act.put]
    refine wpAnyL_take (i := 5) (v := .agg #[.bool l1, .string s1, .slice x1 n1 c1]) rfl (by kernel_rfl) (by kernel_rfl) (by kernel_rfl) (by kernel_rfl) (by kernel_rfl) (fun _ _ _ h => h) hS (Or.inl ⟨by kernel_rfl, ?_⟩) ?_
    · intro w' hSw
      exact exec_load_row 119 (.tmp 6) rfl _ rfl _ _ (0, 0) _ hSw.1 Tryz.underlying119 rfl (by kernel_rfl)
    try simp only [Act.put]
    refine wpAnyL_ready (rs := [6]) (by kernel_rfl) (by simp) ?_
    refine AllReadyL.cons rfl (fun K hK => ?_) AllReadyL.nil
    go_simp
    refine (HV.out _).mono ?_
    rintro e w1 ⟨rfl, b1⟩
    have hS1 : (fun w' : World => w'.heap[w.heap.size + 1]? = some (.cells #[.bool l1, .string s1, .slice x1 n1 c1] 119 (0, 0)) ∧ w'.heap[w.heap.size + 1 + 1]? = some (.cells #[.int .i64 2, .bool true, .string ⟨#[]⟩, .slice (some ⟨b, off, none⟩) 2 cap, .string d, .string s1, .nilIface] 176 (0, 0))) w1 := ⟨kept_block b1 hS.1, kept_block b1 hS.2⟩
    have HB1 : Hid (Below w.heap.size w w1) := HB3.out.drew.trans (b1.mono HB3.out.size)
    clear b1
    refine hK.out _ _ hS1 ?_
    clear hK K
    try simp only [Act.put]
    obtain ⟨ok, hok⟩ : ∃ ok, ok = (!l1 && decide (s1.size = 8)) := ⟨_, rfl⟩
    have HOK := hid hok
    rw [← hok]
    clear hok
    refine wpAnyL_take (i := 7) (v := .bool ok) rfl (by kernel_rfl) (by kernel_rfl) (by kernel_rfl) (by kernel_rfl) (by kernel_rfl) (fun _ _ _ h => h) hS1 (Or.inl ⟨by kernel_rfl, ?_⟩) ?_
    · (intro w' hSw; go_simp)
    try simp only [Act.put]
    refine wpAnyL_ready (rs := [8]) (by kernel_rfl) (by simp) ?_
    refine AllReadyL.cons rfl (fun K hK => ?_) AllReadyL.nil
    go_simp
    refine hK.out _ _ hS1 ?_
    clear hK K
    try simp only [Act.put]
    refine wpAnyL_ready (rs := [9]) (by kernel_rfl) (by simp) ?_
    refine AllReadyL.last rfl (fun K hK => ?_)
    go_simp
    refine hK.out _ _ ?_
    clear hK K
    try simp only [Act.put]
    refine wpAny_done (by kernel_rfl) ?_ _
    go_wp2_with fail
    exact bodyPost_ret (v := .tuple #[extV (some ⟨b, off, none⟩) cap d s1 .nilIface, .bool ok]) (by simp [results, Tryz.results152, go_sem, extV]) rfl ⟨by rw [HE.out, ← HOK.out]; rfl, HB1.out⟩
end Go.Proofs.YtbmohenjphmlgaaGreat

/- Nodes as they are read (of the program); the walk of readReference. -/
namespace Go.Proofs.YtbmohenjphmlgaaGreat
open Go.RowKit
set_option maxRecDepth 100000

theorem repW_frame {lo B : Nat} {w w' : World} (hb : Below B w w') : ∀ (n : Nat) (v : Value) (t : Itm), RepW lo B w n v t → RepW lo B w' n v t := repW_turn (Nat.le_refl _) (Nat.le_refl _) (fun k _ hk => hb.block k hk)

theorem repW_shape {lo B : Nat} {w : World} {n : Nat} {c0 c1 c2 : Value} {t : Itm} (h : RepW lo B w n (.agg #[c0, c1, c2]) t) : ∃ a cap, c0 = .bool t.list ∧ c1 = .string ⟨t.bytes.toArray⟩ ∧ c2 = .slice a t.items.length cap := rep_shape (repW_rep _ _ _ h)

/-- A reference as it is read: by a sum, or a short node itself. -/
def RefN (p : Value → Itm → Prop) (s : ByteArray) (v : Value) (t : Itm) : Prop :=
  (Tr.isSum t = true ∧ s.data.toList = t.bytes ∧ v = .nilIface) ∨ (Tr.isSum t = false ∧ s = ⟨#[]⟩ ∧ p v t ∧ (Itm.enc t).length < 8)

/-- v is the node that was read of a sound item; its items lie in blocks from lo on, below B. -/
def RN (lo B : Nat) (w : World) : Nat → Value → Itm → Prop
  | 0 => fun _ _ => False
  | m + 1 => fun v t =>
    (Tr.isEmpty t = true ∧ v = emptyV) ∨
    (∃ a cap d x, t.list = true ∧ t.items.length = 2 ∧ RepW lo B w (m + 1) (.agg #[.bool true, .string ⟨#[]⟩, .slice a 2 cap]) t ∧ Tr.unpath (Tr.kid t 0) = some (d.data.toList, true) ∧ Tr.isValue (Tr.kid t 1) = true ∧ x.data.toList = (Tr.kid t 1).bytes ∧ v = leafV a cap d x) ∨
    (∃ a cap d s, t.list = true ∧ t.items.length = 2 ∧ RepW lo B w (m + 1) (.agg #[.bool true, .string ⟨#[]⟩, .slice a 2 cap]) t ∧ Tr.unpath (Tr.kid t 0) = some (d.data.toList, false) ∧ 0 < d.size ∧ Tr.isSum (Tr.kid t 1) = true ∧ s.data.toList = (Tr.kid t 1).bytes ∧ v = extV a cap d s .nilIface) ∨
    (∃ a cap cs x, Tr.isBranch t = true ∧ RepW lo B w (m + 1) (.agg #[.bool true, .string ⟨#[]⟩, .slice a 17 cap]) t ∧ cs.size = 32 ∧ x.data.toList = (Tr.kid t 16).bytes ∧ v = branchV a cap cs x ∧
      ∀ d, d < 16 → ∃ s vd, cs[2 * d]? = some (.string s) ∧ cs[2 * d + 1]? = some vd ∧ RefN (RN lo B w m) s vd (Tr.kid t d))

theorem refN_mono {p q : Value → Itm → Prop} {s : ByteArray} {v : Value} {t : Itm} (h : RefN p s v t) (hpq : p v t → q v t) : RefN q s v t := by
  rcases h with h | ⟨h1, h2, h3, h4⟩
  · exact .inl h
  · exact .inr ⟨h1, h2, hpq h3, h4⟩

theorem rn_later {lo B : Nat} {w w' : World} (hb : Below B w w') : ∀ (m : Nat) (v : Value) (t : Itm), RN lo B w m v t → RN lo B w' m v t := by
  intro m
  induction m with
  | zero => intro v t h; exact h
  | succ m ih =>
    intro v t h
    rcases h with h | ⟨a, cap, d, x, h0, h1, h2, h3⟩ | ⟨a, cap, d, x, h0, h1, h2, h3⟩ | ⟨a, cap, cs, x, h1, h2, h3, h4, h5, h6⟩
    · exact .inl h
    · exact .inr (.inl ⟨a, cap, d, x, h0, h1, repW_frame hb _ _ _ h2, h3⟩)
    · exact .inr (.inr (.inl ⟨a, cap, d, x, h0, h1, repW_frame hb _ _ _ h2, h3⟩))
    · refine .inr (.inr (.inr ⟨a, cap, cs, x, h1, repW_frame hb _ _ _ h2, h3, h4, h5, fun d hd => ?_⟩))
      obtain ⟨s, vd, g1, g2, g3⟩ := h6 d hd
      exact ⟨s, vd, g1, g2, refN_mono g3 (ih _ _)⟩

theorem rn_turn {lo lo' B B' : Nat} {w w' : World} (hlo : lo' ≤ lo) (hB : B ≤ B') (hb : ∀ k, lo ≤ k → k < B → w'.heap[k]? = w.heap[k]?) : ∀ (m : Nat) (v : Value) (t : Itm), RN lo B w m v t → RN lo' B' w' m v t := by
  intro m
  induction m with
  | zero => intro v t h; exact h
  | succ m ih =>
    intro v t h
    rcases h with h | ⟨a, cap, d, x, h0, h1, h2, h3⟩ | ⟨a, cap, d, x, h0, h1, h2, h3⟩ | ⟨a, cap, cs, x, h1, h2, h3, h4, h5, h6⟩
    · exact .inl h
    · exact .inr (.inl ⟨a, cap, d, x, h0, h1, repW_turn hlo hB hb _ _ _ h2, h3⟩)
    · exact .inr (.inr (.inl ⟨a, cap, d, x, h0, h1, repW_turn hlo hB hb _ _ _ h2, h3⟩))
    · refine .inr (.inr (.inr ⟨a, cap, cs, x, h1, repW_turn hlo hB hb _ _ _ h2, h3, h4, h5, fun d hd => ?_⟩))
      obtain ⟨s, vd, g1, g2, g3⟩ := h6 d hd
      exact ⟨s, vd, g1, g2, refN_mono g3 (ih _ _)⟩

theorem empty_item {t : Itm} (hp : Itm.pure t = true) (he : Tr.isEmpty t = true) : t = Tr.itB [] := by
  unfold Tr.isEmpty at he
  simp only [Bool.and_eq_true, Bool.not_eq_true', List.isEmpty_iff] at he
  rw [Itm.pure_eq] at hp
  obtain ⟨l, b, i⟩ := t
  simp only at he hp
  obtain ⟨rfl, rfl⟩ := he
  simp at hp
  obtain ⟨rfl, _⟩ := hp
  rfl

theorem rn_nd {lo B : Nat} {w : World} {m : Nat} {v : Value} {t : Itm} (hp : Itm.pure t = true) (h : RN lo B w m v t) : ∃ (k : Nat) (l0 : Bool) (s : ByteArray) (a : Option Addr) (n cap : Nat), Nd v k l0 s a n cap ∧ Rep B w m (.agg #[.bool l0, .string s, .slice a n cap]) t ∧ (k = 0 ↔ Tr.isEmpty t = true) ∧ (k = 3 ↔ Tr.isBranch t = true) := by
  cases m with
  | zero => exact h.elim
  | succ m =>
    have ne : t.list = true → Tr.isEmpty t = false := fun h => by unfold Tr.isEmpty; rw [h]; rfl
    rcases h with ⟨he, rfl⟩ | ⟨a, cap, d, x, h0, h1, h2, _, _, _, rfl⟩ | ⟨a, cap, d, x, h0, h1, h2, _, _, _, _, rfl⟩ | ⟨a, cap, cs, x, h1, h2, h3, h4, rfl, h6⟩
    · have := empty_item hp he
      subst this
      exact ⟨0, _, _, _, _, _, nd_empty, rep_bytes _ _ _ _, by simp [he], by simp [Tr.isBranch, Tr.itB]⟩
    · exact ⟨1, _, _, _, _, _, nd_leaf _ _ _ _, repW_rep _ _ _ h2, by simp [ne h0], by simp [Tr.isBranch, h1]⟩
    · exact ⟨2, _, _, _, _, _, nd_ext _ _ _ _ _, repW_rep _ _ _ h2, by simp [ne h0], by simp [Tr.isBranch, h1]⟩
    · exact ⟨3, _, _, _, _, _, nd_branch _ _ _ _, repW_rep _ _ _ h2, by simp [Tr.branch_full h1], by simp [h1]⟩

/-- readNode reads what is sound, to m levels. -/
def ReadOk (m : Nat) : Prop := ∀ (lo B : Nat) (w : World) (l : Bool) (s : ByteArray) (a : Option Addr) (n cap : Nat) (t : Itm), B ≤ w.heap.size → Small t → RepW lo B w m (.agg #[.bool l, .string s, .slice a n cap]) t →
  Calls Tryz.prog 143 #[.agg #[.bool l, .string s, .slice a n cap]] w fun e w' => ∃ v', e = .returned (.tuple #[v', .bool (Tr.sound t)]) ∧ IsNode v' ∧ (Tr.sound t = true → RN lo B w' m v' t) ∧ Below w.heap.size w w'

theorem rn_node {lo B : Nat} {w : World} {m : Nat} {v : Value} {t : Itm} (hp : Itm.pure t = true) (h : RN lo B w m v t) : IsNode v := by
  obtain ⟨_, _, _, _, _, _, h, _⟩ := rn_nd hp h
  obtain ⟨T, A, _, rfl, _⟩ := h
  exact .inr ⟨_, _, rfl⟩

set_option maxHeartbeats 3200000 in
theorem readReference_any {m : Nat} (hm : ReadOk m) (lo B : Nat) (w : World) (l : Bool) (s : ByteArray) (a : Option Addr) (n cap : Nat) (t : Itm) (hB : B ≤ w.heap.size) (hs : Small t) (hr : RepW lo B w m (.agg #[.bool l, .string s, .slice a n cap]) t) :
    Calls Tryz.prog 160 #[.agg #[.bool l, .string s, .slice a n cap]] w fun e w' => ∃ s' n', e = .returned (.tuple #[.agg #[.string s', n'], .bool (Tr.isSum t || (Tr.sound t && decide ((Itm.enc t).length < 8)))]) ∧ IsNode n' ∧ ((Tr.isSum t || (Tr.sound t && decide ((Itm.enc t).length < 8))) = true → RefN (RN lo B w' m) s' n' t) ∧ Below w.heap.size w w' := by
  obtain ⟨_, _, e0, e1, e2⟩ := repW_shape hr
  have hlist : l = t.list := by injection e0
  have hby : s = ⟨t.bytes.toArray⟩ := by injection e1
  have hsum : (!l && decide (s.size = 8)) = Tr.isSum t := by
    unfold Tr.isSum
    rw [hlist, hby]
    show (!t.list && decide (t.bytes.toArray.size = 8)) = _
    rw [List.size_toArray]
  have HS := hid (fun w => isSumP_any l s a n cap w)
  rw [hsum] at HS
  have HM := hid (fun w' (hb : Below w.heap.size w w') => hm lo B w' l s a n cap t (Nat.le_trans hB hb.size) hs (repW_frame (hb.mono hB) _ _ _ hr))
  have HSH := hid (fun (w' : World) (v' : Value) (h : RN lo B w' m v' t) (hB' : B ≤ w'.heap.size) => (rn_nd hs.pure h))
  cases hsm : Tr.isSum t with
  | true =>
    rw [hsm] at HS
    have HBY : Hid (s.data.toList = t.bytes) := by rw [Hid, hby]
    have HSM := hid hsm
    clear e0 e1 e2 hlist hby hsum hr hsm
    go_enter Tryz.func160, Tryz.ntmps160
    go_wp2_with fail
    have HB0 := hid (belowAA w (.cells #[.bool l, .string s, .slice a n cap] 119) (.cells #[.string ⟨#[]⟩, .nilIface] 139))
    refine (HS.out _).mono ?_
    rintro e w1 ⟨rfl, b1⟩
    have HB1 : Hid (Below w.heap.size w w1) := HB0.out.trans (b1.mono HB0.out.size)
    have hb0 : w1.heap[w.heap.size]? = some (.cells #[.bool l, .string s, .slice a n cap] 119 (0, 0)) := kept_block b1 (block_alloc (heap_alloc_new w _))
    have hb2 := old_block2 b1
    have z1 := cell_of_row _ _ 1 _ _ _ hb0
    have q0 := cell_of_row _ _ 0 _ _ _ hb2
    have q1 := cell_of_row _ _ 1 _ _ _ hb2
    have hf0 := frozen_of_row _ _ 0 _ _ hb2
    have hf1 := frozen_of_row _ _ 1 _ _ hb2
    clear b1 hb0
    go_wp2_with fail
    obtain ⟨y0, y1⟩ := set2 hb2 (.string s) .nilIface
    exact bodyPost_ret (v := .tuple #[.agg #[.string s, .nilIface], .bool true]) (by simp [results, Tryz.results160, go_sem, y0, y1]) rfl ⟨s, .nilIface, by rfl, .inl rfl, fun _ => .inl ⟨HSM.out, HBY.out, rfl⟩, (HB1.out.setCell (p := ⟨w.heap.size + 1, 0, none⟩) (Nat.le_succ _) _).setCell (p := ⟨w.heap.size + 1, 1, none⟩) (Nat.le_succ _) _⟩
  | false =>
    rw [hsm] at HS
    have HSM := hid hsm
    have HPU := hid hs
    have hBB := hB
    clear e0 e1 e2 hlist hby hsum hr hsm HSH
    go_enter Tryz.func160, Tryz.ntmps160
    go_wp2_with fail
    have HB0 := hid (belowAA w (.cells #[.bool l, .string s, .slice a n cap] 119) (.cells #[.string ⟨#[]⟩, .nilIface] 139))
    refine (HS.out _).mono ?_
    rintro e w1 ⟨rfl, b1⟩
    have HB1 : Hid (Below w.heap.size w w1) := HB0.out.trans (b1.mono HB0.out.size)
    have hb0 : w1.heap[w.heap.size]? = some (.cells #[.bool l, .string s, .slice a n cap] 119 (0, 0)) := kept_block b1 (block_alloc (heap_alloc_new w _))
    have hb2 := old_block2 b1
    have z0 := cell_of_row _ _ 0 _ _ _ hb0
    have z1 := cell_of_row _ _ 1 _ _ _ hb0
    have z2 := cell_of_row _ _ 2 _ _ _ hb0
    clear b1 hb0
    go_wp2_with fail
    refine (HM.out _ HB1.out).mono ?_
    rintro e w2 ⟨v2, rfl, n2, r2, b2⟩
    have HB2 : Hid (Below w.heap.size w w2) := HB1.out.trans (b2.mono HB1.out.size)
    have hb3 := kept_block b2 hb2
    have q0 := cell_of_row _ _ 0 _ _ _ hb3
    have q1 := cell_of_row _ _ 1 _ _ _ hb3
    have hf0 := frozen_of_row _ _ 0 _ _ hb3
    have hf1 := frozen_of_row _ _ 1 _ _ hb3
    clear b2 hb2 z0 z1 z2
    cases hsd : Tr.sound t with
    | false =>
      have HSD := hid hsd
      clear r2
      rcases n2 with rfl | ⟨T, y, rfl⟩
      · go_wp2_with fail
        obtain ⟨y0, y1⟩ := set2 hb3 (.string ⟨#[]⟩) .nilIface
        exact bodyPost_ret (v := .tuple #[.agg #[.string ⟨#[]⟩, .nilIface], .bool false]) (by simp [results, Tryz.results160, go_sem, y0, y1]) rfl ⟨⟨#[]⟩, .nilIface, by rw [HSD.out]; rfl, .inl rfl, (fun h => by rw [HSD.out] at h; cases h), (HB2.out.setCell (p := ⟨w.heap.size + 1, 0, none⟩) (Nat.le_succ _) _).setCell (p := ⟨w.heap.size + 1, 1, none⟩) (Nat.le_succ _) _⟩
      · go_wp2_with fail
        obtain ⟨y0, y1⟩ := set2 hb3 (.string ⟨#[]⟩) (.iface T y)
        exact bodyPost_ret (v := .tuple #[.agg #[.string ⟨#[]⟩, .iface T y], .bool false]) (by simp [results, Tryz.results160, go_sem, y0, y1]) rfl ⟨⟨#[]⟩, .iface T y, by rw [HSD.out]; rfl, .inr ⟨_, _, rfl⟩, (fun h => by rw [HSD.out] at h; cases h), (HB2.out.setCell (p := ⟨w.heap.size + 1, 0, none⟩) (Nat.le_succ _) _).setCell (p := ⟨w.heap.size + 1, 1, none⟩) (Nat.le_succ _) _⟩
    | true =>
      have HSD := hid hsd
      have hrn := r2 hsd
      obtain ⟨k2, l2, s2, a2, nn2, cap2, hnd, hrep, _⟩ := rn_nd HPU.out.pure hrn
      have HRN := hid hrn
      have HIS : Hid (Calls Tryz.prog 134 #[v2] w2 fun e w' => e = .returned (.bool (decide ((Itm.enc t).length < 8))) ∧ Below w2.heap.size w2 w') := by
        cases m with
        | zero => exact hrep.elim
        | succ m => exact isShort_any w2 hnd HPU.out (rep_wider (Nat.le_trans hBB HB2.out.size) _ _ _ hrep)
      obtain ⟨T, y, _, rfl, _⟩ := hnd
      obtain ⟨sh, hsh⟩ : ∃ sh, sh = decide ((Itm.enc t).length < 8) := ⟨_, rfl⟩
      have HSHT := hid hsh
      rw [← hsh] at HIS
      clear hsh r2 hrn hrep hsd n2 q0 q1 hf0 hf1
      go_wp2_with fail
      refine HIS.out.mono ?_
      rintro e w3 ⟨rfl, b3⟩
      have HB3 : Hid (Below w.heap.size w w3) := HB2.out.trans (b3.mono HB2.out.size)
      have HRN3 := hid (rn_later (b3.mono (Nat.le_trans hBB HB2.out.size)) _ _ _ HRN.out)
      have hb4 := kept_block b3 hb3
      have q0 := cell_of_row _ _ 0 _ _ _ hb4
      have q1 := cell_of_row _ _ 1 _ _ _ hb4
      have hf0 := frozen_of_row _ _ 0 _ _ hb4
      have hf1 := frozen_of_row _ _ 1 _ _ hb4
      clear b3 hb3
      go_wp2_with fail
      obtain ⟨y0, y1⟩ := set2 hb4 (.string ⟨#[]⟩) (.iface T (.agg y))
      have hbl : ∀ u v : Value, Below w.heap.size w3 ((w3.setCell ⟨w.heap.size + 1, 0, none⟩ u).setCell ⟨w.heap.size + 1, 1, none⟩ v) := fun u v => ((Below.refl _ _).setCell (p := ⟨w.heap.size + 1, 0, none⟩) (Nat.le_succ _) _).setCell (p := ⟨w.heap.size + 1, 1, none⟩) (Nat.le_succ _) _
      exact bodyPost_ret (v := .tuple #[.agg #[.string ⟨#[]⟩, .iface T (.agg y)], .bool sh]) (by simp [results, Tryz.results160, go_sem, y0, y1]) rfl ⟨⟨#[]⟩, .iface T (.agg y), by rw [HSD.out, ← HSHT.out]; rfl, .inr ⟨_, _, rfl⟩, (fun h => .inr ⟨HSM.out, rfl, rn_later ((hbl _ _).mono hBB) _ _ _ HRN3.out, by rw [HSD.out, Bool.false_or, Bool.true_and, decide_eq_true_eq] at h; exact h⟩), HB3.out.trans (hbl _ _)⟩
end Go.Proofs.YtbmohenjphmlgaaGreat
