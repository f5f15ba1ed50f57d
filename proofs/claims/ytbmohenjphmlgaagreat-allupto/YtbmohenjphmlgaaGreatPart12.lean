/- Part 12 of a proof: what the last text needs. -/
import Derived.Test.YtbmohenjphmlgaaGreatPart11
import Derived.Test.YtbmohenjphmlgaaGreatPart3
import Derived.Maps.Own
import Derived.Maps.OwnSet
/- The walks of Trust (of the program). -/
namespace Go.Proofs.YtbmohenjphmlgaaGreat
open Go.RowKit
set_option maxRecDepth 100000

theorem trust_height (k1 : Nat) (x : Int) (r : ByteArray) (w : World) (h : x < 0 ∨ 1000000 < x) : Calls Tryz.prog 28 #[.pointer (some ⟨k1, 0, none⟩), .int .i64 x, .string r] w fun e w' => e = .returned (.int .i64 7) ∧ w' = w := by
  by_cases h1 : x < 0
  · clear h
    go_enter Tryz.func28, Tryz.ntmps28
    go_wp2_with fail
    go_ret
    exact ⟨rfl, rfl⟩
  · have h2 : 1000000 < x := by omega
    clear h
    go_enter Tryz.func28, Tryz.ntmps28
    go_wp2_with fail
    go_ret
    exact ⟨rfl, rfl⟩

theorem trust_root (k1 : Nat) (x : Int) (r : ByteArray) (w : World) (h1 : 0 ≤ x) (h2 : x ≤ 1000000) (h : ¬ r.size = 8) : Calls Tryz.prog 28 #[.pointer (some ⟨k1, 0, none⟩), .int .i64 x, .string r] w fun e w' => e = .returned (.int .i64 5) ∧ w' = w := by
  have HR := hid (fun s w => isRoot_any s w)
  have h1' : ¬ x < 0 := by omega
  have h2' : ¬ 1000000 < x := by omega
  have h' : ¬ (r.size : Int) = 8 := by omega
  go_enter Tryz.func28, Tryz.ntmps28
  go_wp2_with fail
  refine (HR.out _ _).mono ?_
  rintro e w1 ⟨rfl, rfl⟩
  rw [decide_eq_false h']
  go_wp2_with fail
  go_ret
  exact ⟨rfl, rfl⟩

theorem bytes_ne {a b : ByteArray} (h : a ≠ b) : (a.toList == b.toList) = false := by
  rw [beq_eq_false_iff_ne]
  intro e
  apply h
  rw [ByteArray.toList_eq, ByteArray.toList_eq] at e
  cases a; cases b
  simp only [Array.toList_inj] at e
  rw [e]

/-- The root at a height that is taken. -/
theorem trust_old (k1 : Nat) (a : Option Addr) (cap : Nat) (l : List (Int × ByteArray)) (y : Value) (x : Int) (r r0 : ByteArray) (w : World) (h1 : 0 ≤ x) (h2 : x ≤ 1000000) (h : r.size = 8)
    (hk : w.heap[k1]? = some (.cells #[.slice a l.length cap, y] 94 (0, 0))) (hr : HRd w.heap.size w a l) (hl : l.length ≤ 8) (hs : Rises l) (hx : (x, r0) ∈ l) :
    Calls Tryz.prog 28 #[.pointer (some ⟨k1, 0, none⟩), .int .i64 x, .string r] w fun e w' => e = .returned (.int .i64 (if r0 = r then 0 else 8)) ∧ Below w.heap.size w w' := by
  have HR := hid (fun s w => isRoot_any s w)
  have HP := hid (place_any k1 a cap l y x w hk hr (by omega) hs)
  have HRD := hid hr
  have HS := hid hs
  have HX := hid hx
  have HK := hid hk
  have h1' : ¬ x < 0 := by omega
  have h2' : ¬ 1000000 < x := by omega
  have h' : (r.size : Int) = 8 := by omega
  clear hk hr hs hx
  go_enter Tryz.func28, Tryz.ntmps28
  go_wp2_with fail
  refine (HR.out _ _).mono ?_
  rintro e w1 ⟨rfl, rfl⟩
  rw [decide_eq_true h']
  go_wp2_with fail
  refine HP.out.mono ?_
  rintro e w2 ⟨⟨p, rfl, p1, p2, p3⟩, b2⟩
  have hfound : ∃ h : p < l.length, l[p].1 = x ∧ l[p].2 = r0 := by
    obtain ⟨j, hj, hjl⟩ := List.getElem_of_mem HX.out
    have hj1 : l[j].1 = x := by rw [hjl]
    have : j = p := by
      rcases Nat.lt_trichotomy j p with h | h | h
      · have := p2 j hj h; omega
      · exact h
      · have := HS.out.at (i := p) (j := j) h hj
        have := p3 p (by omega) (Nat.le_refl _); omega
    subst this
    exact ⟨hj, hj1, by rw [hjl]⟩
  obtain ⟨hp, hp1, hp2⟩ := hfound
  rw [decide_eq_true (⟨hp, hp1⟩ : ∃ h : p < l.length, l[p].1 = x)]
  obtain ⟨b, off, rfl, hb, e0, e1⟩ := HRD.out p hp
  rw [hp2] at e1
  have f1 := (b2.cell (p := ⟨b, off + p * 2 + 1, none⟩) hb).trans e1
  have c0 := (b2.cell (p := ⟨k1, 0, none⟩) (Array.getElem?_eq_some_iff.1 HK.out).1).trans (cell_of_row _ _ 0 _ _ _ HK.out)
  have i1 : (0 : Int) ≤ (p : Int) := by omega
  have i2 : (p : Int) < (l.length : Int) := by omega
  have HB := hid b2
  clear e0 e1 p1 p2 p3 b2 hp1 hp2
  by_cases he : r0 = r
  · subst he
    go_wp2_with fail
    go_ret
    exact ⟨rfl, HB.out⟩
  · have hne := bytes_ne he
    go_wp2_with fail
    go_ret
    exact ⟨rfl, HB.out⟩

end Go.Proofs.YtbmohenjphmlgaaGreat

/- The walks of Insert behind the last head, and of Trust at a height that is not taken (of the program). -/
namespace Go.Proofs.YtbmohenjphmlgaaGreat
open Go.RowKit
set_option maxRecDepth 100000

theorem infoHead : (Tryz.prog.info? 99).map (fun i => (i.zero, i.size, i.bytes)) = some (some (.agg #[.int .i64 0, .string ⟨#[]⟩]), 2, 24) := by kernel_rfl

theorem hcells_append (a b : List (Int × ByteArray)) : hcells (a ++ b) = hcells a ++ hcells b := by simp [hcells]

/-- Where a head is put among heads. -/
def InsOk (l : List (Int × ByteArray)) (x : Int) (r : ByteArray) : Prop :=
  ∀ (w : World) (base g p : Nat) (v : Value), HOwn w base v l → base ≤ w.heap.size → w.heap[g]? = some (.cells #[.int .i64 x, .string r] 99 (0, 0)) → v.ownBlock ≠ some g → p ≤ l.length → (∀ i, (h : i < l.length) → i < p → l[i].1 < x) → (∀ i, (h : i < l.length) → p ≤ i → x < l[i].1) →
    Calls Tryz.prog 54 #[v, .int .i64 p, .slice (some ⟨g, 0, none⟩) 1 1] w fun e w' => ∃ v', e = .returned v' ∧ HOwn w' base v' (l.take p ++ (x, r) :: l.drop p) ∧ w.grownBy w' v.ownBlock ∧ Newer w v v'

theorem cells_row2 {w : World} {g : Nat} {a b : Value} {e : TypeId} {fr : Nat × Nat} (h : w.heap[g]? = some (.cells #[a, b] e fr)) : ∀ j u, [a, b][j]? = some u → w.cell? ((⟨g, 0, none⟩ : Addr).add j) = some u := by
  intro j u hu
  have hadd : (⟨g, 0, none⟩ : Addr).add j = ⟨g, j, none⟩ := by unfold Addr.add; split <;> simp_all
  rw [hadd, cell_of_row _ _ j #[a, b] e fr h]
  simpa using hu

theorem set_first {w : World} {g : Nat} {a b c : Value} {e : TypeId} {fr : Nat × Nat} (h : w.heap[g]? = some (.cells #[a, b] e fr)) : (w.setCell ⟨g, 0, none⟩ c).heap[g]? = some (.cells #[c, b] e fr) := by
  simp [World.setCell, Array.getElem?_modify, h]

theorem set_other {w : World} {g k : Nat} {c : Value} {off : Nat} (h : k ≠ g) : (w.setCell ⟨g, off, none⟩ c).heap[k]? = w.heap[k]? := by
  simp [World.setCell, Array.getElem?_modify, Ne.symm h]

/-- Trust at a height that is not taken. -/
def NewHead (w : World) (k1 base : Nat) (v y : Value) (l : List (Int × ByteArray)) (x : Int) (r : ByteArray) (w' : World) : Prop :=
  ∃ (v' : Value) (p : Nat), p ≤ l.length ∧ (∀ i, (h : i < l.length) → i < p → l[i].1 < x) ∧ (∀ i, (h : i < l.length) → p ≤ i → x < l[i].1) ∧ w'.heap[k1]? = some (.cells #[v', y] 94 (0, 0)) ∧ HOwn w' base v' (l.take p ++ (x, r) :: l.drop p) ∧ Newer w v v' ∧ v'.ownBlock ≠ some k1 ∧ Turns (fun k => k = k1 ∨ v.ownBlock = some k) w w'

theorem new_head {w w5 w6 : World} {k1 base : Nat} {v y v' : Value} {l : List (Int × ByteArray)} {x : Int} {r : ByteArray} {p : Nat} (hk : w.heap[k1]? = some (.cells #[v, y] 94 (0, 0))) (hne : v.ownBlock ≠ some k1) (hb : Below w.heap.size w w5) (hlt : w.heap.size ≤ w5.heap.size)
    (hp : p ≤ l.length ∧ (∀ i, (h : i < l.length) → i < p → l[i].1 < x) ∧ (∀ i, (h : i < l.length) → p ≤ i → x < l[i].1)) (ho6 : HOwn w6 base v' (l.take p ++ (x, r) :: l.drop p)) (hg : w5.grownBy w6 v.ownBlock) (hn : Newer w5 v v') : NewHead w k1 base v y l x r (w6.setCell ⟨k1, 0, none⟩ v') := by
  have hk1 := (Array.getElem?_eq_some_iff.1 hk).1
  have h6 : w6.heap[k1]? = some (.cells #[v, y] 94 (0, 0)) := (hg.block k1 (Nat.lt_of_lt_of_le hk1 hlt) (fun e => hne e.symm)).trans ((hb.block _ hk1).trans hk)
  have hv' : v'.ownBlock ≠ some k1 := by
    rcases hn with h | ⟨g, h, hg⟩
    · rw [h]; exact hne
    · rw [h]; intro e; cases e; omega
  refine ⟨v', p, hp.1, hp.2.1, hp.2.2, set_first h6, hown_frame ho6 (fun g hg => set_other (fun e => hv' (by rw [hg, e]))), ?_, hv', ⟨?_, ?_, ?_, ?_, ?_⟩⟩
  · rcases hn with h | ⟨g, h, hg⟩
    · exact .inl h
    · exact .inr ⟨g, h, Nat.le_trans hlt hg⟩
  · exact hg.os.trans hb.os
  · exact hg.tape.trans hb.tape
  · exact hg.output.trans hb.output
  · have := hg.size
    simp only [World.setCell, Array.size_modify]
    omega
  · intro k hk hno
    rw [not_or] at hno
    rw [set_other hno.1]
    exact (hg.block k (by omega) (fun e => hno.2 e.symm)).trans (hb.block k hk)

set_option maxHeartbeats 3200000 in
theorem trust_new (k1 base : Nat) (a : Option Addr) (cap : Nat) (l : List (Int × ByteArray)) (y : Value) (x : Int) (r : ByteArray) (w : World) (h1 : 0 ≤ x) (h2 : x ≤ 1000000) (h : r.size = 8)
    (hk : w.heap[k1]? = some (.cells #[.slice a l.length cap, y] 94 (0, 0))) (ho : HOwn w base (.slice a l.length cap) l) (hB : base ≤ w.heap.size) (hne : (Value.slice a l.length cap).ownBlock ≠ some k1) (hl : l.length < 8) (hs : Rises l) (hx : ∀ q ∈ l, q.1 ≠ x) (hins : InsOk l x r) :
    Calls Tryz.prog 28 #[.pointer (some ⟨k1, 0, none⟩), .int .i64 x, .string r] w fun e w' => e = .returned (.int .i64 0) ∧ NewHead w k1 base (.slice a l.length cap) y l x r w' := by
  have HR := hid (fun s w => isRoot_any s w)
  have HP := hid (place_any k1 a cap l y x w hk (hown_rd ho) (by omega) hs)
  have HC := hid (fun w => clone_any r w (by omega))
  have HK := hid hk
  have HO := hid ho
  have HI := hid hins
  have HX := hid hx
  have HN := hid hne
  have h1' : ¬ x < 0 := by omega
  have h2' : ¬ 1000000 < x := by omega
  have h' : (r.size : Int) = 8 := by omega
  have hl' : ¬ (8 : Int) ≤ (l.length : Int) := by omega
  have c0 := cell_of_row _ _ 0 _ _ _ hk
  clear hk hs hx ho hins hne
  go_enter Tryz.func28, Tryz.ntmps28
  go_wp2_with fail
  refine (HR.out _ _).mono ?_
  rintro e w1 ⟨rfl, hw⟩
  obtain rfl := hw.symm
  rw [decide_eq_true h']
  go_wp2_with fail
  refine HP.out.mono ?_
  rintro e w2 ⟨⟨p, rfl, p1, p2, p3⟩, b2⟩
  rw [decide_eq_false (fun ⟨hp, hpx⟩ => HX.out _ (List.getElem_mem hp) hpx : ¬ ∃ h : p < l.length, l[p].1 = x)]
  have HP3 : Hid (p ≤ l.length ∧ (∀ i, (h : i < l.length) → i < p → l[i].1 < x) ∧ (∀ i, (h : i < l.length) → p ≤ i → x < l[i].1)) := ⟨p1, p2, fun i hi hpi => by have := p3 i hi hpi; have := HX.out _ (List.getElem_mem hi); omega⟩
  have HB2 := hid b2
  have d0 := (b2.cell (p := ⟨k1, 0, none⟩) (Array.getElem?_eq_some_iff.1 HK.out).1).trans c0
  clear p1 p2 p3 b2 c0
  go_wp2_with fail
  refine (HC.out _).mono ?_
  rintro e w3 ⟨rfl, b3⟩
  have HB3 : Hid (Below w.heap.size w w3) := HB2.out.trans (b3.mono HB2.out.size)
  have g0 := (b3.cell (p := ⟨k1, 0, none⟩) (Nat.lt_of_lt_of_le (Array.getElem?_eq_some_iff.1 HK.out).1 HB2.out.size)).trans d0
  clear d0 b3
  go_upto_region 13 with fail
  have n0 : k1 ≠ w3.heap.size := Nat.ne_of_lt (Nat.lt_of_lt_of_le (Array.getElem?_eq_some_iff.1 HK.out).1 HB3.out.size)
  have x0 : (w3.alloc (.cells #[.int .i64 x, .string r] 99)).cell? ⟨k1, 0, none⟩ = some (.slice a l.length cap) := (World.cell?_of_block (w := w3) (Below.heap_alloc _ _ _ (Nat.lt_of_lt_of_le (Array.getElem?_eq_some_iff.1 HK.out).1 HB3.out.size))).trans g0
  have x1 : (w3.alloc (.cells #[.int .i64 x, .string r] 99)).cell? ⟨w3.heap.size, 0, none⟩ = some (.int .i64 x) := cell_of_row _ _ 0 _ _ _ (heap_alloc_new w3 _)
  have x2 : (w3.alloc (.cells #[.int .i64 x, .string r] 99)).cell? ⟨w3.heap.size, 1, none⟩ = some (.string r) := cell_of_row _ _ 1 _ _ _ (heap_alloc_new w3 _)
  refine wp_region_L (fun w' => w'.cell? ⟨k1, 0, none⟩ = some (.slice a l.length cap) ∧ w'.cell? ⟨w3.heap.size, 0, none⟩ = some (.int .i64 x) ∧ w'.cell? ⟨w3.heap.size, 1, none⟩ = some (.string r)) 11 (by kernel_rfl) ?_
  have hS : (fun w' : World => w'.cell? ⟨k1, 0, none⟩ = some (.slice a l.length cap) ∧ w'.cell? ⟨w3.heap.size, 0, none⟩ = some (.int .i64 x) ∧ w'.cell? ⟨w3.heap.size, 1, none⟩ = some (.string r)) (w3.alloc (.cells #[.int .i64 x, .string r] 99)).drew := ⟨x0, x1, x2⟩
  refine wpAnyL_take (i := 0) (v := .pointer (some ⟨k1, 0, none⟩)) rfl (by kernel_rfl) (by kernel_rfl) (by kernel_rfl) (by kernel_rfl) (by kernel_rfl) (fun _ _ _ h => h) hS (Or.inl ⟨by kernel_rfl, ?_⟩) ?_
  · (intro w' hSw; (try dsimp only at hSw); go_simp)
  try simp only [Act.put]
  refine wpAnyL_take (i := 1) (v := .pointer (some ⟨k1, 0, none⟩)) rfl (by kernel_rfl) (by kernel_rfl) (by kernel_rfl) (by kernel_rfl) (by kernel_rfl) (fun _ _ _ h => h) hS (Or.inl ⟨by kernel_rfl, ?_⟩) ?_
  · (intro w' hSw; (try dsimp only at hSw); go_simp)
  try simp only [Act.put]
  refine wpAnyL_take (i := 2) (v := .pointer (some ⟨k1, 0, none⟩)) rfl (by kernel_rfl) (by kernel_rfl) (by kernel_rfl) (by kernel_rfl) (by kernel_rfl) (fun _ _ _ h => h) hS (Or.inl ⟨by kernel_rfl, ?_⟩) ?_
  · (intro w' hSw; (try dsimp only at hSw); go_simp)
  try simp only [Act.put]
  refine wpAnyL_take (i := 3) (v := .pointer (some ⟨k1, 0, none⟩)) rfl (by kernel_rfl) (by kernel_rfl) (by kernel_rfl) (by kernel_rfl) (by kernel_rfl) (fun _ _ _ h => h) hS (Or.inl ⟨by kernel_rfl, ?_⟩) ?_
  · (intro w' hSw; (try dsimp only at hSw); go_simp)
  try simp only [Act.put]
  refine wpAnyL_take (i := 4) (v := .slice a l.length cap) rfl (by kernel_rfl) (by kernel_rfl) (by kernel_rfl) (by kernel_rfl) (by kernel_rfl) (fun _ _ _ h => h) hS (Or.inl ⟨by kernel_rfl, ?_⟩) ?_
  · (intro w' hSw; (try dsimp only at hSw); go_simp)
  try simp only [Act.put]
  refine wpAnyL_take (i := 5) (v := .int .i64 p) rfl (by kernel_rfl) (by kernel_rfl) (by kernel_rfl) (by kernel_rfl) (by kernel_rfl) (fun _ _ _ h => h) hS (Or.inl ⟨by kernel_rfl, ?_⟩) ?_
  · (intro w' hSw; (try dsimp only at hSw); go_simp)
  try simp only [Act.put]
  refine wpAnyL_take (i := 6) (v := .agg #[.int .i64 x, .string r]) rfl (by kernel_rfl) (by kernel_rfl) (by kernel_rfl) (by kernel_rfl) (by kernel_rfl) (fun _ _ _ h => h) hS (Or.inl ⟨by kernel_rfl, ?_⟩) ?_
  · (intro w' hSw; (try dsimp only at hSw); go_simp)
  try simp only [Act.put]
  refine wpAnyL_ready (rs := [7]) (by kernel_rfl) (by simp) ?_
  refine AllReadyL.cons rfl (fun K hK => ?_) AllReadyL.nil
  go_simp
  have HW5 : Hid (Below w3.heap.size w3 ((w3.alloc (.cells #[.int .i64 x, .string r] 99)).alloc (.cells #[.int .i64 x, .string r] 99)).drew) := (((Below.refl _ _).alloc (Nat.le_refl _) _).alloc (by rw [alloc_size]; omega) _).drew
  have HG5 : Hid ((((w3.alloc (.cells #[.int .i64 x, .string r] 99)).alloc (.cells #[.int .i64 x, .string r] 99)).drew).heap[w3.heap.size + 1]? = some (.cells #[.int .i64 x, .string r] 99 (0, 0))) := by
    have := heap_alloc_new (w3.alloc (.cells #[.int .i64 x, .string r] 99)) (.cells #[.int .i64 x, .string r] 99)
    rwa [alloc_size] at this
  have HX5 : Hid ((((w3.alloc (.cells #[.int .i64 x, .string r] 99)).alloc (.cells #[.int .i64 x, .string r] 99)).drew).heap[w3.heap.size]? = some (.cells #[.int .i64 x, .string r] 99 (0, 0))) := (Below.heap_alloc _ _ _ (by rw [alloc_size]; omega)).trans (heap_alloc_new w3 _)
  have y0 : (((w3.alloc (.cells #[.int .i64 x, .string r] 99)).alloc (.cells #[.int .i64 x, .string r] 99)).drew).cell? ⟨k1, 0, none⟩ = some (.slice a l.length cap) := (HW5.out.cell (p := ⟨k1, 0, none⟩) (Nat.lt_of_lt_of_le (Array.getElem?_eq_some_iff.1 HK.out).1 HB3.out.size)).trans g0
  refine hK.out _ _ ⟨y0, cell_of_row _ _ 0 _ _ _ HX5.out, cell_of_row _ _ 1 _ _ _ HX5.out⟩ ?_
  clear hK K hS x0 x1 x2 g0 n0
  try simp only [Act.put]
  refine wpAnyL_ready (rs := [8]) (by kernel_rfl) (by simp) ?_
  refine AllReadyL.cons rfl (fun K hK => ?_) AllReadyL.nil
  go_simp
  have HB5 : Hid (Below w.heap.size w ((w3.alloc (.cells #[.int .i64 x, .string r] 99)).alloc (.cells #[.int .i64 x, .string r] 99)).drew) := HB3.out.trans (HW5.out.mono HB3.out.size)
  have HNG : Hid ((Value.slice a l.length cap).ownBlock ≠ some (w3.heap.size + 1)) := fun hh => by
    have := (hown_lt HO.out _ hh).2
    have := HB3.out.size
    omega
  refine (HI.out _ base (w3.heap.size + 1) p _ (hown_later HO.out HB5.out) (Nat.le_trans hB HB5.out.size) HG5.out HNG.out HP3.out.1 HP3.out.2.1 HP3.out.2.2).mono ?_
  rintro e w6 ⟨v', rfl, ho6, hg6, hn6⟩
  have HE : Hid (NewHead w k1 base (.slice a l.length cap) y l x r (w6.setCell ⟨k1, 0, none⟩ v')) := new_head HK.out HN.out HB5.out (by have := HB3.out.size; have : (((w3.alloc (.cells #[.int .i64 x, .string r] 99)).alloc (.cells #[.int .i64 x, .string r] 99)).drew).heap.size = w3.heap.size + 1 + 1 := ((Array.size_push _).trans (congrArg (· + 1) (alloc_size _ _))); omega) HP3.out ho6 hg6 hn6
  have k6 : Hid (w6.heap[k1]? = some (.cells #[.slice a l.length cap, y] 94 (0, 0))) := (hg6.block k1 (Nat.lt_of_lt_of_le (Array.getElem?_eq_some_iff.1 HK.out).1 HB5.out.size) (fun e => HN.out e.symm)).trans ((HB5.out.block _ (Array.getElem?_eq_some_iff.1 HK.out).1).trans HK.out)
  have q6 : Hid (w6.heap[w3.heap.size]? = some (.cells #[.int .i64 x, .string r] 99 (0, 0))) := (hg6.block _ (Array.getElem?_eq_some_iff.1 HX5.out).1 (fun e => by have := (hown_lt HO.out _ e.symm).2; have := HB3.out.size; omega)).trans HX5.out
  obtain ⟨a6, cap6, hv6⟩ := hown_shape ho6
  subst hv6
  have c6 := cell_of_row _ _ 0 _ _ _ k6.out
  have f6 := frozen_of_row _ _ 0 _ _ k6.out
  have c7 := cell_of_row _ _ 0 _ _ _ q6.out
  have c8 := cell_of_row _ _ 1 _ _ _ q6.out
  generalize (l.take p ++ (x, r) :: l.drop p).length = n6 at *
  clear ho6 hg6 hn6 y0 HX5 HG5 HW5 HB5 HNG HB3 HB2 HP3 HI HO HK HX HN
  refine hK.out _ _ ⟨c6, c7, c8⟩ ?_
  clear hK K
  try simp only [Act.put]
  refine wpAnyL_ready (rs := [9]) (by kernel_rfl) (by simp) ?_
  refine AllReadyL.cons rfl (fun K hK => ?_) AllReadyL.nil
  go_simp
  refine hK.out _ _ ⟨c6, c7, c8⟩ ?_
  clear hK K
  try simp only [Act.put]
  refine wpAnyL_ready (rs := [10]) (by kernel_rfl) (by simp) ?_
  refine AllReadyL.cons rfl (fun K hK => ?_) AllReadyL.nil
  go_simp
  refine hK.out _ _ ⟨c6, c7, c8⟩ ?_
  clear hK K
  try simp only [Act.put]
  refine wpAnyL_ready (rs := [11]) (by kernel_rfl) (by simp) ?_
  refine AllReadyL.last rfl (fun K hK => ?_)
  go_simp
  refine hK.out _ _ ?_
  clear hK K
  refine wpAny_done (by kernel_rfl) ?_ _
  go_wp2_with fail
  go_ret
  exact ⟨rfl, HE.out⟩
end Go.Proofs.YtbmohenjphmlgaaGreat

/- The walks of a keeper's calls that are refused, and of Heads (of the program). -/
namespace Go.Proofs.YtbmohenjphmlgaaGreat
open Go.RowKit
set_option maxRecDepth 100000

/-- The outer Trust hands on. -/
theorem outer_trust {k0 k1 : Nat} {x : Int} {r : ByteArray} {w : World} {Q : Int → World → Prop} (h0 : w.heap[k0]? = some (.cells #[.pointer (some ⟨k1, 0, none⟩)] 71 (0, 0)))
    (h : Calls Tryz.prog 28 #[.pointer (some ⟨k1, 0, none⟩), .int .i64 x, .string r] w fun e w' => ∃ n, e = .returned (.int .i64 n) ∧ Q n w') :
    Calls Tryz.prog 12 #[.pointer (some ⟨k0, 0, none⟩), .int .i64 x, .string r] w fun e w' => ∃ n, e = .returned (.int .i64 n) ∧ Q n w' := by
  have H := hid h
  have c0 := cell_of_row _ _ 0 _ _ _ h0
  clear h h0
  go_enter Tryz.func12, Tryz.ntmps12
  go_wp2_with fail
  refine H.out.mono ?_
  rintro e w1 ⟨n, rfl, q⟩
  have HQ := hid q
  clear q c0
  go_wp2_with fail
  go_ret
  exact ⟨n, rfl, HQ.out⟩

theorem outer_drop {k0 k1 : Nat} {x : Int} {w : World} {Q : Int → World → Prop} (h0 : w.heap[k0]? = some (.cells #[.pointer (some ⟨k1, 0, none⟩)] 71 (0, 0)))
    (h : Calls Tryz.prog 35 #[.pointer (some ⟨k1, 0, none⟩), .int .i64 x] w fun e w' => ∃ n, e = .returned (.int .i64 n) ∧ Q n w') :
    Calls Tryz.prog 22 #[.pointer (some ⟨k0, 0, none⟩), .int .i64 x] w fun e w' => ∃ n, e = .returned (.int .i64 n) ∧ Q n w' := by
  have H := hid h
  have c0 := cell_of_row _ _ 0 _ _ _ h0
  clear h h0
  go_enter Tryz.func22, Tryz.ntmps22
  go_wp2_with fail
  refine H.out.mono ?_
  rintro e w1 ⟨n, rfl, q⟩
  have HQ := hid q
  clear q c0
  go_wp2_with fail
  go_ret
  exact ⟨n, rfl, HQ.out⟩

theorem outer_offer {k0 k1 : Nat} {x : Int} {r : ByteArray} {v : Value} {w : World} {Q : Int → World → Prop} (h0 : w.heap[k0]? = some (.cells #[.pointer (some ⟨k1, 0, none⟩)] 71 (0, 0)))
    (h : Calls Tryz.prog 32 #[.pointer (some ⟨k1, 0, none⟩), .int .i64 x, .string r, v] w fun e w' => ∃ n, e = .returned (.int .i64 n) ∧ Q n w') :
    Calls Tryz.prog 18 #[.pointer (some ⟨k0, 0, none⟩), .int .i64 x, .string r, v] w fun e w' => ∃ n, e = .returned (.int .i64 n) ∧ Q n w' := by
  have H := hid h
  have c0 := cell_of_row _ _ 0 _ _ _ h0
  clear h h0
  go_enter Tryz.func18, Tryz.ntmps18
  go_wp2_with fail
  refine H.out.mono ?_
  rintro e w1 ⟨n, rfl, q⟩
  have HQ := hid q
  clear q c0
  go_wp2_with fail
  go_ret
  exact ⟨n, rfl, HQ.out⟩

theorem outer_get {k0 k1 : Nat} {x : Int} {r : ByteArray} {w : World} {Q : ByteArray → Bool → Int → World → Prop} (h0 : w.heap[k0]? = some (.cells #[.pointer (some ⟨k1, 0, none⟩)] 71 (0, 0)))
    (h : Calls Tryz.prog 34 #[.pointer (some ⟨k1, 0, none⟩), .int .i64 x, .string r] w fun e w' => ∃ s b n, e = .returned (.tuple #[.string s, .bool b, .int .i64 n]) ∧ Q s b n w') :
    Calls Tryz.prog 20 #[.pointer (some ⟨k0, 0, none⟩), .int .i64 x, .string r] w fun e w' => ∃ s b n, e = .returned (.tuple #[.string s, .bool b, .int .i64 n]) ∧ Q s b n w' := by
  have H := hid h
  have c0 := cell_of_row _ _ 0 _ _ _ h0
  clear h h0
  go_enter Tryz.func20, Tryz.ntmps20
  go_wp2_with fail
  refine H.out.mono ?_
  rintro e w1 ⟨s, b, n, rfl, q⟩
  have HQ := hid q
  clear q c0
  go_wp2_with fail
  refine bodyPost_ret (v := .tuple #[.string s, .bool b, .int .i64 n]) (by simp [results, Tryz.results20, go_sem]) rfl ?_
  exact ⟨s, b, n, rfl, HQ.out⟩

/-- Where no root is trusted at a height. -/
theorem drop_none (k1 : Nat) (a : Option Addr) (cap : Nat) (l : List (Int × ByteArray)) (y : Value) (x : Int) (w : World)
    (hk : w.heap[k1]? = some (.cells #[.slice a l.length cap, y] 94 (0, 0))) (hr : HRd w.heap.size w a l) (hl : l.length ≤ 8) (hs : Rises l) (hx : ∀ q ∈ l, q.1 ≠ x) :
    Calls Tryz.prog 35 #[.pointer (some ⟨k1, 0, none⟩), .int .i64 x] w fun e w' => e = .returned (.int .i64 10) ∧ Below w.heap.size w w' := by
  have HP := hid (place_any k1 a cap l y x w hk hr (by omega) hs)
  have HX := hid hx
  clear hk hr hs hx
  go_enter Tryz.func35, Tryz.ntmps35
  go_wp2_with fail
  refine HP.out.mono ?_
  rintro e w2 ⟨⟨p, rfl, p1, p2, p3⟩, b2⟩
  rw [decide_eq_false (fun ⟨hp, hpx⟩ => HX.out _ (List.getElem_mem hp) hpx : ¬ ∃ h : p < l.length, l[p].1 = x)]
  clear p1 p2 p3
  have HB := hid b2
  clear b2
  go_wp2_with fail
  go_ret
  exact ⟨rfl, HB.out⟩

theorem offer_none (k1 : Nat) (a : Option Addr) (cap : Nat) (l : List (Int × ByteArray)) (y v : Value) (x : Int) (r : ByteArray) (w : World)
    (hk : w.heap[k1]? = some (.cells #[.slice a l.length cap, y] 94 (0, 0))) (hr : HRd w.heap.size w a l) (hl : l.length ≤ 8) (hs : Rises l) (hx : ∀ q ∈ l, q.1 ≠ x) :
    Calls Tryz.prog 32 #[.pointer (some ⟨k1, 0, none⟩), .int .i64 x, .string r, v] w fun e w' => e = .returned (.int .i64 10) ∧ Below w.heap.size w w' := by
  have HP := hid (place_any k1 a cap l y x w hk hr (by omega) hs)
  have HX := hid hx
  clear hk hr hs hx
  go_enter Tryz.func32, Tryz.ntmps32
  go_wp2_with fail
  refine HP.out.mono ?_
  rintro e w2 ⟨⟨p, rfl, p1, p2, p3⟩, b2⟩
  rw [decide_eq_false (fun ⟨hp, hpx⟩ => HX.out _ (List.getElem_mem hp) hpx : ¬ ∃ h : p < l.length, l[p].1 = x)]
  clear p1 p2 p3
  have HB := hid b2
  clear b2
  go_wp2_with fail
  go_ret
  exact ⟨rfl, HB.out⟩

theorem get_none (k1 : Nat) (a : Option Addr) (cap : Nat) (l : List (Int × ByteArray)) (y : Value) (x : Int) (r : ByteArray) (w : World)
    (hk : w.heap[k1]? = some (.cells #[.slice a l.length cap, y] 94 (0, 0))) (hr : HRd w.heap.size w a l) (hl : l.length ≤ 8) (hs : Rises l) (hx : ∀ q ∈ l, q.1 ≠ x) :
    Calls Tryz.prog 34 #[.pointer (some ⟨k1, 0, none⟩), .int .i64 x, .string r] w fun e w' => e = .returned (.tuple #[.string ⟨#[]⟩, .bool false, .int .i64 10]) ∧ Below w.heap.size w w' := by
  have HP := hid (place_any k1 a cap l y x w hk hr (by omega) hs)
  have HX := hid hx
  clear hk hr hs hx
  go_enter Tryz.func34, Tryz.ntmps34
  go_wp2_with fail
  refine HP.out.mono ?_
  rintro e w2 ⟨⟨p, rfl, p1, p2, p3⟩, b2⟩
  rw [decide_eq_false (fun ⟨hp, hpx⟩ => HX.out _ (List.getElem_mem hp) hpx : ¬ ∃ h : p < l.length, l[p].1 = x)]
  clear p1 p2 p3
  have HB := hid b2
  clear b2
  go_wp2_with fail
  refine bodyPost_ret (v := .tuple #[.string ⟨#[]⟩, .bool false, .int .i64 10]) (by simp [results, Tryz.results34, go_sem]) rfl ?_
  exact ⟨rfl, HB.out⟩

end Go.Proofs.YtbmohenjphmlgaaGreat

/- The walks of Heads, of a walk that finds nothing, and of Get and Offer that are refused (of the program). -/
namespace Go.Proofs.YtbmohenjphmlgaaGreat
open Go.RowKit
set_option maxRecDepth 100000

theorem hrd_cells {w : World} {a : Option Addr} {l : List (Int × ByteArray)} {B b off : Nat} (h : HRd B w a l) (ha : a = some ⟨b, off, none⟩) : ∀ j u, (hcells l)[j]? = some u → w.cell? ((⟨b, off, none⟩ : Addr).add j) = some u := by
  intro j u hu
  have hj : j < l.length * 2 := by rw [← hcells_len]; exact (List.getElem?_eq_some_iff.1 hu).1
  have hadd : (⟨b, off, none⟩ : Addr).add j = ⟨b, off + j, none⟩ := by unfold Addr.add; split <;> simp_all
  have hi : j / 2 < l.length := by omega
  obtain ⟨b', off', e, _, c0, c1⟩ := h (j / 2) hi
  rw [ha] at e
  simp only [Option.some.injEq, Addr.mk.injEq, and_true] at e
  obtain ⟨rfl, rfl⟩ := e
  have e2 := hcells_at l (j / 2) hi
  rw [hadd]
  rcases Nat.mod_two_eq_zero_or_one j with h0 | h0
  · rw [show j = j / 2 * 2 by omega] at hu ⊢
    rw [e2.1] at hu; cases hu; exact c0
  · rw [show j = j / 2 * 2 + 1 by omega] at hu ⊢
    rw [e2.2] at hu; cases hu; exact c1

theorem hcells_one (l : List (Int × ByteArray)) : ∀ u ∈ hcells l, u.oneCell' = true := by
  intro u hu
  unfold hcells at hu
  rw [List.mem_flatMap] at hu
  obtain ⟨p, _, hp⟩ := hu
  rcases List.mem_cons.1 hp with rfl | hp
  · rfl
  · rcases List.mem_cons.1 hp with rfl | hp
    · rfl
    · cases hp

theorem empty_row (w : World) (e : TypeId) (size : Nat) : (w.alloc (.cells #[] e)).ownsRow w.heap.size e size (.slice (some ⟨w.heap.size, 0, none⟩) 0 0) 0 [] :=
  ⟨by simp, .inr ⟨w.heap.size, 0, #[], rfl, Nat.le_refl _, heap_alloc_new w _, Nat.le_refl _, by unfold maxLen; omega, by simp, by simp⟩⟩

theorem nil_is (w : World) : (binOp .eql 51 (.slice none 0 0) (.slice none 0 0)).run Tryz.prog w = .ok (.bool true) w := by rfl
theorem nil_not (w : World) (p : Addr) (n cap : Nat) : (binOp .eql 51 (.slice (some p) n cap) (.slice none 0 0)).run Tryz.prog w = .ok (.bool false) w := by rfl

set_option maxHeartbeats 1600000 in
theorem cloneHeads_any (a : Option Addr) (cap : Nat) (l : List (Int × ByteArray)) (w : World) (hr : HRd w.heap.size w a l) (hl : l.length ≤ 1000) (hn : a = none → l.length = 0 ∧ cap = 0) : Calls Tryz.prog 127 #[.slice a l.length cap] w fun e w' => ∃ v', e = .returned v' ∧ HOwn w' w.heap.size v' l ∧ Below w.heap.size w w' := by
  cases a with
  | none =>
    obtain ⟨h0, rfl⟩ := hn rfl
    obtain rfl : l = [] := List.eq_nil_of_length_eq_zero h0
    have hnil := nil_is
    clear hr hl hn
    go_enter Tryz.func127, Tryz.ntmps127
    go_wp2_with fail
    go_ret
    exact ⟨_, rfl, hown_nil _ _, Below.refl _ _⟩
  | some p =>
    obtain ⟨i0, hi, hz0, hz1, hz2⟩ := info_parts infoHead
    have HNW : Hid (∀ j u, (hcells l)[j]? = some u → (w.alloc (.cells #[] 99)).cell? (p.add j) = some u) := by
      intro j u hu
      have hj : j < l.length * 2 := by rw [← hcells_len]; exact (List.getElem?_eq_some_iff.1 hu).1
      obtain ⟨b, off, e, hb, _⟩ := hr 0 (by omega)
      cases e
      have hadd : (⟨b, off, none⟩ : Addr).add j = ⟨b, off + j, none⟩ := by unfold Addr.add; split <;> simp_all
      have := hrd_cells hr rfl j u hu
      rw [hadd] at this ⊢
      exact (World.cell?_of_block (w := w) (Below.heap_alloc _ _ _ hb)).trans this
    have hnot := fun w => nil_not w p l.length cap
    clear hr hn
    go_enter Tryz.func127, Tryz.ntmps127
    go_wp2_with (at_builtin; go_loud (refine wpList_append_mine _ rfl (.tmp 5) (.tmp 6) 51 rfl w.heap.size 99 i0 _ 2 24 Tryz.underlying51 hi hz0 hz1 hz2 rfl (by decide) (.slice (some ⟨w.heap.size, 0, none⟩) 0 0) 0 [] rfl (empty_row _ _ _) p l.length cap (hcells l) rfl (hcells_len l) HNW.out (hcells_one l) (by unfold maxLen; omega) (by omega) (by rw [alloc_size]; omega) ?_); intro v' w' ho' hg' hn'; have HO := hid ho'; have HG := hid hg'; clear ho' hg' hn')
    go_ret
    refine ⟨v', rfl, ?_, ((Below.refl _ _).alloc (Nat.le_refl _) _).grown HG.out (by rw [alloc_size]; omega) (fun k hk => by cases hk; exact Nat.le_refl _)⟩
    have := HO.out
    rw [Nat.zero_add, List.nil_append] at this
    exact this

theorem hown_none {w : World} {b : Nat} {n cap : Nat} {a : Option Addr} {l : List (Int × ByteArray)} (h : HOwn w b (.slice a n cap) l) : a = none → l.length = 0 ∧ cap = 0 := by
  intro ha
  rcases h.2 with ⟨hv, h0⟩ | ⟨g, cap', cur, hv, _⟩
  · simp only [Value.slice.injEq] at hv; exact ⟨h0, hv.2.2⟩
  · simp only [Value.slice.injEq] at hv; rw [ha] at hv; cases hv.1

theorem heads_in (k1 base : Nat) (a : Option Addr) (cap : Nat) (l : List (Int × ByteArray)) (y : Value) (w : World) (hk : w.heap[k1]? = some (.cells #[.slice a l.length cap, y] 94 (0, 0))) (ho : HOwn w base (.slice a l.length cap) l) (hl : l.length ≤ 8) :
    Calls Tryz.prog 102 #[.pointer (some ⟨k1, 0, none⟩)] w fun e w' => ∃ v', e = .returned v' ∧ HOwn w' w.heap.size v' l ∧ Below w.heap.size w w' := by
  have HC := hid (cloneHeads_any a cap l w (hown_rd ho) (by omega) (hown_none ho))
  have c0 := cell_of_row _ _ 0 _ _ _ hk
  clear hk ho
  go_enter Tryz.func102, Tryz.ntmps102
  go_wp2_with fail
  refine HC.out.mono ?_
  rintro e w1 ⟨v', rfl, o1, b1⟩
  have HO := hid o1
  have HB := hid b1
  clear o1 b1
  go_wp2_with fail
  go_ret
  exact ⟨_, rfl, HO.out, HB.out⟩

theorem heads_any (k0 k1 base : Nat) (a : Option Addr) (cap : Nat) (l : List (Int × ByteArray)) (y : Value) (w : World) (h0 : w.heap[k0]? = some (.cells #[.pointer (some ⟨k1, 0, none⟩)] 71 (0, 0))) (hk : w.heap[k1]? = some (.cells #[.slice a l.length cap, y] 94 (0, 0))) (ho : HOwn w base (.slice a l.length cap) l) (hl : l.length ≤ 8) :
    Calls Tryz.prog 63 #[.pointer (some ⟨k0, 0, none⟩)] w fun e w' => ∃ v', e = .returned v' ∧ HOwn w' w.heap.size v' l ∧ Below w.heap.size w w' := by
  have HC := hid (heads_in k1 base a cap l y w hk ho hl)
  have c0 := cell_of_row _ _ 0 _ _ _ h0
  clear hk ho h0
  go_enter Tryz.func63, Tryz.ntmps63
  go_wp2_with fail
  refine HC.out.mono ?_
  rintro e w1 ⟨v', rfl, o1, b1⟩
  have HO := hid o1
  have HB := hid b1
  clear o1 b1
  go_wp2_with fail
  go_ret
  exact ⟨_, rfl, HO.out, HB.out⟩

theorem found_at {l : List (Int × ByteArray)} {x : Int} {r0 : ByteArray} {p : Nat} (hs : Rises l) (hx : (x, r0) ∈ l) (p2 : ∀ i, (h : i < l.length) → i < p → l[i].1 < x) (p3 : ∀ i, (h : i < l.length) → p ≤ i → x ≤ l[i].1) : ∃ h : p < l.length, l[p].1 = x ∧ l[p].2 = r0 := by
  obtain ⟨j, hj, hjl⟩ := List.getElem_of_mem hx
  have hj1 : l[j].1 = x := by rw [hjl]
  have : j = p := by
    rcases Nat.lt_trichotomy j p with h | h | h
    · have := p2 j hj h; omega
    · exact h
    · have := hs.at (i := p) (j := j) h hj
      have := p3 p (by omega) (Nat.le_refl _); omega
  subst this
  exact ⟨hj, hj1, by rw [hjl]⟩

set_option maxHeartbeats 1600000 in
theorem tell_key (k2 : Nat) (r key : ByteArray) (w : World) (h : 6 < key.size) : Calls Tryz.prog 59 #[.pointer (some ⟨k2, 0, none⟩), .string r, .string key] w fun e w' => e = .returned (.tuple #[.string ⟨#[]⟩, .bool false, .int .i64 3]) ∧ Below w.heap.size w w' := by
  have HK := hid (fun s w => isLongKey_any s w)
  have h' : (6 : Int) < key.size := by omega
  go_enter Tryz.func59, Tryz.ntmps59
  go_wp2_with fail
  refine (HK.out _ _).mono ?_
  rintro e w1 ⟨rfl, rfl⟩
  rw [decide_eq_true h']
  go_wp2_with fail
  refine bodyPost_ret (v := .tuple #[.string ⟨#[]⟩, .bool false, .int .i64 3]) (by simp [results, Tryz.results59, go_sem]) rfl ?_
  exact ⟨rfl, (Below.refl _ _).alloc (Nat.le_refl _) _⟩

theorem belowN {B n : Nat} {a w : World} (h : Below B a w) : Below B a (w.drewN n) := ⟨h.os, h.tape, h.output, h.size, h.block⟩

/-- Get at a height that is trusted hands on to the store. -/
theorem get_in {k1 k2 : Nat} {a : Option Addr} {cap : Nat} {l : List (Int × ByteArray)} {x : Int} {key r0 : ByteArray} {w : World} {Q : ByteArray → Bool → Int → World → Prop}
    (hk : w.heap[k1]? = some (.cells #[.slice a l.length cap, .pointer (some ⟨k2, 0, none⟩)] 94 (0, 0))) (hr : HRd w.heap.size w a l) (hl : l.length ≤ 8) (hs : Rises l) (hx : (x, r0) ∈ l)
    (h : ∀ W, Below w.heap.size w W → Calls Tryz.prog 59 #[.pointer (some ⟨k2, 0, none⟩), .string r0, .string key] W fun e w' => ∃ s b n, e = .returned (.tuple #[.string s, .bool b, .int .i64 n]) ∧ Q s b n w' ∧ Below W.heap.size W w') :
    Calls Tryz.prog 34 #[.pointer (some ⟨k1, 0, none⟩), .int .i64 x, .string key] w fun e w' => ∃ s b n, e = .returned (.tuple #[.string s, .bool b, .int .i64 n]) ∧ Q s b n w' ∧ Below w.heap.size w w' := by
  have HP := hid (place_any k1 a cap l _ x w hk hr (by omega) hs)
  have HRD := hid hr
  have HS := hid hs
  have HX := hid hx
  have HK := hid hk
  have HT := hid h
  clear hk hr hs hx h
  go_enter Tryz.func34, Tryz.ntmps34
  go_wp2_with fail
  refine HP.out.mono ?_
  rintro e w2 ⟨⟨p, rfl, p1, p2, p3⟩, b2⟩
  obtain ⟨hp, hp1, hp2⟩ := found_at HS.out HX.out p2 p3
  rw [decide_eq_true (⟨hp, hp1⟩ : ∃ h : p < l.length, l[p].1 = x)]
  obtain ⟨b, off, rfl, hb, e0, e1⟩ := HRD.out p hp
  rw [hp2] at e1
  have f1 := (b2.cell (p := ⟨b, off + p * 2 + 1, none⟩) hb).trans e1
  have c0 := (b2.cell (p := ⟨k1, 0, none⟩) (Array.getElem?_eq_some_iff.1 HK.out).1).trans (cell_of_row _ _ 0 _ _ _ HK.out)
  have c1 := (b2.cell (p := ⟨k1, 1, none⟩) (Array.getElem?_eq_some_iff.1 HK.out).1).trans (cell_of_row _ _ 1 _ _ _ HK.out)
  have i1 : (0 : Int) ≤ (p : Int) := by omega
  have i2 : (p : Int) < (l.length : Int) := by omega
  have HB := hid b2
  have hk1 : k1 < w2.heap.size := Nat.lt_of_lt_of_le (Array.getElem?_eq_some_iff.1 HK.out).1 b2.size
  have hb1 : b < w2.heap.size := Nat.lt_of_lt_of_le hb b2.size
  clear e0 e1 p1 p2 p3 b2 hp1 hp2
  go_wp2_with fail
  go_region_held3 (fun w' => w'.cell? ⟨k1, 0, none⟩ = some (.slice (some ⟨b, off, none⟩) l.length cap) ∧ w'.cell? ⟨k1, 1, none⟩ = some (.pointer (some ⟨k2, 0, none⟩)) ∧ w'.cell? ⟨b, off + p * 2 + 1, none⟩ = some (.string r0)) (go_keep) ((go_at_call 59; refine (HT.out _ HB.out.drew).mono ?_; rintro e w3 ⟨s, bb, n, rfl, q, b3⟩; have HQ := hid q; have HB3 : Hid (Below w.heap.size w w3) := HB.out.drew.trans (b3.mono HB.out.size); have z0 := (b3.cell (p := ⟨k1, 0, none⟩) hk1).trans c0; have z1 := (b3.cell (p := ⟨k1, 1, none⟩) hk1).trans c1; have z2 := (b3.cell (p := ⟨b, off + p * 2 + 1, none⟩) hb1).trans f1; clear q b3))
  all_goals go_wp2_with fail
  all_goals refine bodyPost_ret (v := .tuple #[.string s, .bool bb, .int .i64 n]) (by simp [results, Tryz.results34, go_sem]) rfl ?_
  all_goals exact ⟨s, bb, n, rfl, HQ.out, HB3.out⟩

end Go.Proofs.YtbmohenjphmlgaaGreat

/- A map of values by texts, in memory: what it has, in plain words. -/
namespace Go.Proofs.YtbmohenjphmlgaaGreat
open Go Go.RowKit
set_option maxRecDepth 100000

def heldElem (v : Value) : Option (DataW Value × List MemPlace) := some (.held v, [])

/-- Block b is a map of n entries that has f s for the text s. -/
def MapAt (P : Program) (k : TypeId) (w : World) (b n : Nat) (f : List UInt8 → Option Value) : Prop :=
  ∃ D : DataW Value, w.ownsMap P k heldElem b n D ∧ Maps.size D = n ∧ ∀ s, Maps.has D (.string s) = (f s).isSome ∧ ∀ v, f s = some v → ∀ z, D.atKey (.string s) z = .held v

theorem owns_exact {P : Program} {k : TypeId} {w : World} {b m : Nat} {D : DataW Value} (h : w.ownsMap P k heldElem b m D) : w.ownsMap P k heldElem b (Maps.size D) D := by
  obtain ⟨es, clock, hb, F, hs, rfl⟩ := h
  refine ⟨es, clock, hb, F, ?_, rfl⟩
  simp [Maps.size, length_sorted]

theorem mapAt_new (P : Program) (k : TypeId) (w : World) : MapAt P k (w.alloc (.map #[] 0)) w.heap.size 0 (fun _ => none) :=
  ⟨.map [], World.ownsMap_made w P k heldElem, rfl, fun s => ⟨rfl, fun v h => by cases h⟩⟩

theorem mapAt_lt {P : Program} {k : TypeId} {w : World} {b n : Nat} {f : List UInt8 → Option Value} (h : MapAt P k w b n f) : b < w.heap.size := by
  obtain ⟨D, h1, _⟩ := h
  exact h1.lt

theorem mapAt_frame {P : Program} {k : TypeId} {w w' : World} {b n : Nat} {f : List UInt8 → Option Value} (h : MapAt P k w b n f) (hb : w'.heap[b]? = w.heap[b]?) : MapAt P k w' b n f := by
  obtain ⟨D, ⟨es, clock, h1, h2⟩, h3⟩ := h
  exact ⟨D, ⟨es, clock, hb.trans h1, h2⟩, h3⟩

/-- The same entries in another block are the same map. -/
theorem mapAt_clone {P : Program} {k : TypeId} {w : World} {b n : Nat} {f : List UInt8 → Option Value} (h : MapAt P k w b n f) : ∃ es clock, w.heap[b]? = some (.map es clock) ∧ ∀ (w' : World) (b' : Nat), w'.heap[b']? = some (.map es clock) → MapAt P k w' b' n f := by
  obtain ⟨D, ⟨es, clock, h1, h2⟩, h3⟩ := h
  exact ⟨es, clock, h1, fun w' b' hb => ⟨D, ⟨es, clock, hb, h2⟩, h3⟩⟩

section
variable {P : Program} {k T e : TypeId} {w : World} {b n : Nat} {f : List UInt8 → Option Value}

theorem mapAt_look (h : MapAt P k w b n f) (K : Maps.Keyed P k) (ht : P.underlying T = some (.map k e)) (hk : P.underlying k = some .string) (hz : (zeroValue e).run P w = .ok .nilIface w) (s : ByteArray) (hs : s.size ≤ maxLen) :
    (Instr.lookup T (.map (some b)) (.string s) true).run P w = .ok (.tuple #[(f s.data.toList).getD .nilIface, .bool (f s.data.toList).isSome]) w := by
  obtain ⟨D, h1, _, h3⟩ := h
  obtain ⟨v, ps, hr, hv⟩ := h1.look_ok (t := T) K ht hz (zd := .held .nilIface) (zp := []) rfl (WideMaps.keyOf_string_mk hk hs)
  obtain ⟨g1, g2⟩ := h3 s.data.toList
  rw [hr, g1]
  unfold heldElem at hv
  simp only [Option.some.injEq, Prod.mk.injEq] at hv
  cases hf : f s.data.toList with
  | some u =>
    have := hv.1
    rw [g2 u hf] at this
    simp only [DataW.held.injEq] at this
    rw [this]; rfl
  | none =>
    rw [hf] at g1
    have := hv.1
    rw [Maps.atKey_of_not_has g1] at this
    simp only [DataW.held.injEq] at this
    rw [this]; rfl

theorem mapAt_len (h : MapAt P k w b n f) (ht : P.underlying T = some (.map k e)) (ty : TypeId) : (Builtin.len_ #[T] ty #[.map (some b)]).run P w = .ok (.int .i64 n) w := by
  obtain ⟨D, h1, h2, _⟩ := h
  have := h1.len ht ty
  rw [h2] at this
  exact this

theorem mapAt_store (h : MapAt P k w b n f) (K : Maps.Keyed P k) (ht : P.underlying T = some (.map k e)) (hk : P.underlying k = some .string) (hn : n < maxLen) (s : ByteArray) (hs : s.size ≤ maxLen) (v : Value) :
    ∃ w', (Instr.mapUpdate T (.map (some b)) (.string s) v).run P w = .ok () w' ∧ MapAt P k w' b (if (f s.data.toList).isSome then n else n + 1) (fun x => if x = s.data.toList then some v else f x) ∧ w.mapTurned w' b := by
  obtain ⟨D, h1, h2, h3⟩ := h
  obtain ⟨w', hr, ho, ht'⟩ := h1.store (t := T) K ht hn (WideMaps.keyOf_string_mk hk hs) (val := v) (d := .held v) (ps := []) rfl
  have hkl : WideAt.IsKeyLit (.string s.data.toList) := K.one.key ⟨_, WideMaps.keyOf_string_mk hk hs⟩
  have hsz : Maps.size (D.put (.string s.data.toList) (.held v)) = if (f s.data.toList).isSome then n else n + 1 := by
    rw [Maps.size_put (h1.tidy K), (h3 _).1, h2]
  refine ⟨w', hr, ⟨D.put (.string s.data.toList) (.held v), ?_, hsz, fun x => ?_⟩, ht'⟩
  · have := owns_exact ho
    rw [hsz] at this
    exact this
  · by_cases hx : x = s.data.toList
    · subst hx
      refine ⟨?_, fun u hu z => ?_⟩
      · dsimp only
        rw [Maps.has_put_same h1.isMap hkl, if_pos rfl]; rfl
      · dsimp only at hu
        rw [if_pos rfl] at hu
        cases hu
        exact Maps.atKey_put_same h1.isMap hkl _ _
    · have hne : (Lit.string x) ≠ .string s.data.toList := fun e => hx (by cases e; rfl)
      refine ⟨?_, fun u hu z => ?_⟩
      · dsimp only
        rw [Maps.has_put_other hne, (h3 x).1, if_neg hx]
      · dsimp only at hu
        rw [if_neg hx] at hu
        rw [Maps.atKey_put_other hne]
        exact (h3 x).2 u hu z
end
end Go.Proofs.YtbmohenjphmlgaaGreat
