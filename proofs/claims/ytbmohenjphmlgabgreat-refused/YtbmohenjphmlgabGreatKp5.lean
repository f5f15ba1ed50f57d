/- The walks of Insert behind the last head, and of Trust at a height that is not taken (of the program). -/
import Derived.Test.YtbmohenjphmlgabGreatKp4
namespace Go.Proofs.YtbmohenjphmlgabGreat
open Go.RowKit
set_option maxRecDepth 100000

theorem infoHead : (Tryz.prog.info? 58).map (fun i => (i.zero, i.size, i.bytes)) = some (some (.agg #[.int .i64 0, .string ⟨#[]⟩]), 2, 24) := by kernel_rfl

theorem hcells_append (a b : List (Int × ByteArray)) : hcells (a ++ b) = hcells a ++ hcells b := by simp [hcells]

/-- Where a head is put among heads. -/
def InsOk (l : List (Int × ByteArray)) (x : Int) (r : ByteArray) : Prop :=
  ∀ (w : World) (base g p : Nat) (v : Value), HOwn w base v l → base ≤ w.heap.size → w.heap[g]? = some (.cells #[.int .i64 x, .string r] 58 (0, 0)) → v.ownBlock ≠ some g → p ≤ l.length →
    Calls Tryz.prog 46 #[v, .int .i64 p, .slice (some ⟨g, 0, none⟩) 1 1] w fun e w' => ∃ v', e = .returned v' ∧ HOwn w' base v' (l.take p ++ (x, r) :: l.drop p) ∧ w.grownBy w' v.ownBlock ∧ Newer w v v'

theorem cells_row2 {w : World} {g : Nat} {a b : Value} {e : TypeId} {fr : Nat × Nat} (h : w.heap[g]? = some (.cells #[a, b] e fr)) : ∀ j u, [a, b][j]? = some u → w.cell? ((⟨g, 0, none⟩ : Addr).add j) = some u := by
  intro j u hu
  have hadd : (⟨g, 0, none⟩ : Addr).add j = ⟨g, j, none⟩ := by unfold Addr.add; split <;> simp_all
  rw [hadd, cell_of_row _ _ j #[a, b] e fr h]
  simpa using hu

set_option maxHeartbeats 1600000 in
theorem insert_nil (x : Int) (r : ByteArray) : InsOk [] x r := by
  intro w base g p v ho hB hg hne hp
  obtain rfl : p = 0 := by simpa using hp
  rcases ho.2 with ⟨rfl, _⟩ | ⟨g', cap, cur, rfl, hbg, hg', hn, hcm, hcs, htk⟩
  · obtain ⟨i0, hi, hz0, hz1, hz2⟩ := info_parts infoHead
    have HO := hid ho
    have HG := hid hg
    clear ho hg hne hp
    go_enter Tryz.func46, Tryz.ntmps46
    go_wp2_with (at_builtin; go_loud (refine wpList_append_mine _ rfl (.tmp 23) (.tmp 24) 55 rfl base 58 i0 _ 2 24 Tryz.underlying55 hi hz0 hz1 hz2 rfl (by decide) (.slice none 0 0) 0 [] rfl HO.out ⟨g, 0, none⟩ 1 1 [.int .i64 x, .string r] rfl rfl (cells_row2 HG.out) (by simp [Value.oneCell']) (by decide) (by decide) hB ?_); intro v' w' ho' hg' hnw)
    go_ret
    exact ⟨v', rfl, ho', hg', hnw⟩
  · obtain ⟨i0, hi, hz0, hz1, hz2⟩ := info_parts infoHead
    have HO := hid ho
    have HG := hid hg
    have hc0 : (0 : Int) ≤ (cap : Int) := by omega
    clear ho hg hne hp hg' hcs htk hcm hn
    go_enter Tryz.func46, Tryz.ntmps46
    go_wp2_with (at_builtin; go_loud (refine wpList_append_mine _ rfl (.tmp 23) (.tmp 24) 55 rfl base 58 i0 _ 2 24 Tryz.underlying55 hi hz0 hz1 hz2 rfl (by decide) (.slice (some ⟨g', 0, none⟩) 0 cap) 0 [] rfl HO.out ⟨g, 0, none⟩ 1 1 [.int .i64 x, .string r] rfl rfl (cells_row2 HG.out) (by simp [Value.oneCell']) (by decide) (by decide) hB ?_); intro v' w' ho' hg' hnw)
    go_ret
    exact ⟨v', rfl, ho', hg', hnw⟩

theorem set_first {w : World} {g : Nat} {a b c : Value} {e : TypeId} {fr : Nat × Nat} (h : w.heap[g]? = some (.cells #[a, b] e fr)) : (w.setCell ⟨g, 0, none⟩ c).heap[g]? = some (.cells #[c, b] e fr) := by
  simp [World.setCell, Array.getElem?_modify, h]

theorem set_other {w : World} {g k : Nat} {c : Value} {off : Nat} (h : k ≠ g) : (w.setCell ⟨g, off, none⟩ c).heap[k]? = w.heap[k]? := by
  simp [World.setCell, Array.getElem?_modify, Ne.symm h]

/-- Trust at a height that is not taken. -/
def NewHead (w : World) (k1 base : Nat) (v y : Value) (l : List (Int × ByteArray)) (x : Int) (r : ByteArray) (w' : World) : Prop :=
  ∃ (v' : Value) (p : Nat), p ≤ l.length ∧ (∀ i, (h : i < l.length) → i < p → l[i].1 < x) ∧ (∀ i, (h : i < l.length) → p ≤ i → x < l[i].1) ∧ w'.heap[k1]? = some (.cells #[v', y] 77 (0, 0)) ∧ HOwn w' base v' (l.take p ++ (x, r) :: l.drop p) ∧ Newer w v v' ∧ v'.ownBlock ≠ some k1 ∧ Turns (fun k => k = k1 ∨ v.ownBlock = some k) w w'

theorem new_head {w w5 w6 : World} {k1 base : Nat} {v y v' : Value} {l : List (Int × ByteArray)} {x : Int} {r : ByteArray} {p : Nat} (hk : w.heap[k1]? = some (.cells #[v, y] 77 (0, 0))) (hne : v.ownBlock ≠ some k1) (hb : Below w.heap.size w w5) (hlt : w.heap.size ≤ w5.heap.size)
    (hp : p ≤ l.length ∧ (∀ i, (h : i < l.length) → i < p → l[i].1 < x) ∧ (∀ i, (h : i < l.length) → p ≤ i → x < l[i].1)) (ho6 : HOwn w6 base v' (l.take p ++ (x, r) :: l.drop p)) (hg : w5.grownBy w6 v.ownBlock) (hn : Newer w5 v v') : NewHead w k1 base v y l x r (w6.setCell ⟨k1, 0, none⟩ v') := by
  have hk1 := (Array.getElem?_eq_some_iff.1 hk).1
  have h6 : w6.heap[k1]? = some (.cells #[v, y] 77 (0, 0)) := (hg.block k1 (Nat.lt_of_lt_of_le hk1 hlt) (fun e => hne e.symm)).trans ((hb.block _ hk1).trans hk)
  have hv' : v'.ownBlock ≠ some k1 := by
    rcases hn with h | ⟨g, h, hg⟩
    · rw [h]; exact hne
    · rw [h]; intro e; cases e; omega
  refine ⟨v', p, hp.1, hp.2.1, hp.2.2, set_first h6, hown_frame ho6 (fun g hg => set_other (fun e => hv' (by rw [hg, e]))), ?_, hv', ⟨?_, ?_, ?_, ?_, ?_⟩⟩
  · rcases hn with h | ⟨g, h, hg⟩
    · exact .inl h
    · exact .inr ⟨g, h, Nat.le_trans hlt hg⟩
  · exact hg.os.trans hb.os
  · exact hg.tape.trans hb.tape
  · exact hg.output.trans hb.output
  · have := hg.size
    simp only [World.setCell, Array.size_modify]
    omega
  · intro k hk hno
    rw [not_or] at hno
    rw [set_other hno.1]
    exact (hg.block k (by omega) (fun e => hno.2 e.symm)).trans (hb.block k hk)

set_option maxHeartbeats 3200000 in
theorem trust_new (k1 base : Nat) (a : Option Addr) (cap : Nat) (l : List (Int × ByteArray)) (y : Value) (x : Int) (r : ByteArray) (w : World) (h1 : 0 ≤ x) (h2 : x ≤ 1000000) (h : r.size = 8)
    (hk : w.heap[k1]? = some (.cells #[.slice a l.length cap, y] 77 (0, 0))) (ho : HOwn w base (.slice a l.length cap) l) (hB : base ≤ w.heap.size) (hne : (Value.slice a l.length cap).ownBlock ≠ some k1) (hl : l.length < 8) (hs : Rises l) (hx : ∀ q ∈ l, q.1 ≠ x) (hins : InsOk l x r) :
    Calls Tryz.prog 27 #[.pointer (some ⟨k1, 0, none⟩), .int .i64 x, .string r] w fun e w' => e = .returned (.int .i64 0) ∧ NewHead w k1 base (.slice a l.length cap) y l x r w' := by
  have HR := hid (fun s w => isRoot_any s w)
  have HP := hid (place_any k1 a cap l y x w hk (hown_rd ho) (by omega) hs)
  have HC := hid (fun w => clone_any r w (by omega))
  have HK := hid hk
  have HO := hid ho
  have HI := hid hins
  have HX := hid hx
  have HN := hid hne
  have h1' : ¬ x < 0 := by omega
  have h2' : ¬ 1000000 < x := by omega
  have h' : (r.size : Int) = 8 := by omega
  have hl' : ¬ (8 : Int) ≤ (l.length : Int) := by omega
  have c0 := cell_of_row _ _ 0 _ _ _ hk
  clear hk hs hx ho hins hne
  go_enter Tryz.func27, Tryz.ntmps27
  go_wp2_with fail
  refine (HR.out _ _).mono ?_
  rintro e w1 ⟨rfl, hw⟩
  obtain rfl := hw.symm
  rw [decide_eq_true h']
  go_wp2_with fail
  refine HP.out.mono ?_
  rintro e w2 ⟨⟨p, rfl, p1, p2, p3⟩, b2⟩
  rw [decide_eq_false (fun ⟨hp, hpx⟩ => HX.out _ (List.getElem_mem hp) hpx : ¬ ∃ h : p < l.length, l[p].1 = x)]
  have HP3 : Hid (p ≤ l.length ∧ (∀ i, (h : i < l.length) → i < p → l[i].1 < x) ∧ (∀ i, (h : i < l.length) → p ≤ i → x < l[i].1)) := ⟨p1, p2, fun i hi hpi => by have := p3 i hi hpi; have := HX.out _ (List.getElem_mem hi); omega⟩
  have HB2 := hid b2
  have d0 := (b2.cell (p := ⟨k1, 0, none⟩) (Array.getElem?_eq_some_iff.1 HK.out).1).trans c0
  clear p1 p2 p3 b2 c0
  go_wp2_with fail
  refine (HC.out _).mono ?_
  rintro e w3 ⟨rfl, b3⟩
  have HB3 : Hid (Below w.heap.size w w3) := HB2.out.trans (b3.mono HB2.out.size)
  have g0 := (b3.cell (p := ⟨k1, 0, none⟩) (Nat.lt_of_lt_of_le (Array.getElem?_eq_some_iff.1 HK.out).1 HB2.out.size)).trans d0
  clear d0 b3
  go_upto_region 13 with fail
  have n0 : k1 ≠ w3.heap.size := Nat.ne_of_lt (Nat.lt_of_lt_of_le (Array.getElem?_eq_some_iff.1 HK.out).1 HB3.out.size)
  have x0 : (w3.alloc (.cells #[.int .i64 x, .string r] 58)).cell? ⟨k1, 0, none⟩ = some (.slice a l.length cap) := (World.cell?_of_block (w := w3) (Below.heap_alloc _ _ _ (Nat.lt_of_lt_of_le (Array.getElem?_eq_some_iff.1 HK.out).1 HB3.out.size))).trans g0
  have x1 : (w3.alloc (.cells #[.int .i64 x, .string r] 58)).cell? ⟨w3.heap.size, 0, none⟩ = some (.int .i64 x) := cell_of_row _ _ 0 _ _ _ (heap_alloc_new w3 _)
  have x2 : (w3.alloc (.cells #[.int .i64 x, .string r] 58)).cell? ⟨w3.heap.size, 1, none⟩ = some (.string r) := cell_of_row _ _ 1 _ _ _ (heap_alloc_new w3 _)
  refine wp_region_L (fun w' => w'.cell? ⟨k1, 0, none⟩ = some (.slice a l.length cap) ∧ w'.cell? ⟨w3.heap.size, 0, none⟩ = some (.int .i64 x) ∧ w'.cell? ⟨w3.heap.size, 1, none⟩ = some (.string r)) 11 (by kernel_rfl) ?_
  have hS : (fun w' : World => w'.cell? ⟨k1, 0, none⟩ = some (.slice a l.length cap) ∧ w'.cell? ⟨w3.heap.size, 0, none⟩ = some (.int .i64 x) ∧ w'.cell? ⟨w3.heap.size, 1, none⟩ = some (.string r)) (w3.alloc (.cells #[.int .i64 x, .string r] 58)).drew := ⟨x0, x1, x2⟩
  refine wpAnyL_take (i := 0) (v := .pointer (some ⟨k1, 0, none⟩)) rfl (by kernel_rfl) (by kernel_rfl) (by kernel_rfl) (by kernel_rfl) (by kernel_rfl) (fun _ _ _ h => h) hS (Or.inl ⟨by kernel_rfl, ?_⟩) ?_
  · (intro w' hSw; (try dsimp only at hSw); go_simp)
  try simp only [Act.put]
  refine wpAnyL_take (i := 1) (v := .pointer (some ⟨k1, 0, none⟩)) rfl (by kernel_rfl) (by kernel_rfl) (by kernel_rfl) (by kernel_rfl) (by kernel_rfl) (fun _ _ _ h => h) hS (Or.inl ⟨by kernel_rfl, ?_⟩) ?_
  · (intro w' hSw; (try dsimp only at hSw); go_simp)
  try simp only [Act.put]
  refine wpAnyL_take (i := 2) (v := .pointer (some ⟨k1, 0, none⟩)) rfl (by kernel_rfl) (by kernel_rfl) (by kernel_rfl) (by kernel_rfl) (by kernel_rfl) (fun _ _ _ h => h) hS (Or.inl ⟨by kernel_rfl, ?_⟩) ?_
  · (intro w' hSw; (try dsimp only at hSw); go_simp)
  try simp only [Act.put]
  refine wpAnyL_take (i := 3) (v := .pointer (some ⟨k1, 0, none⟩)) rfl (by kernel_rfl) (by kernel_rfl) (by kernel_rfl) (by kernel_rfl) (by kernel_rfl) (fun _ _ _ h => h) hS (Or.inl ⟨by kernel_rfl, ?_⟩) ?_
  · (intro w' hSw; (try dsimp only at hSw); go_simp)
  try simp only [Act.put]
  refine wpAnyL_take (i := 4) (v := .slice a l.length cap) rfl (by kernel_rfl) (by kernel_rfl) (by kernel_rfl) (by kernel_rfl) (by kernel_rfl) (fun _ _ _ h => h) hS (Or.inl ⟨by kernel_rfl, ?_⟩) ?_
  · (intro w' hSw; (try dsimp only at hSw); go_simp)
  try simp only [Act.put]
  refine wpAnyL_take (i := 5) (v := .int .i64 p) rfl (by kernel_rfl) (by kernel_rfl) (by kernel_rfl) (by kernel_rfl) (by kernel_rfl) (fun _ _ _ h => h) hS (Or.inl ⟨by kernel_rfl, ?_⟩) ?_
  · (intro w' hSw; (try dsimp only at hSw); go_simp)
  try simp only [Act.put]
  refine wpAnyL_take (i := 6) (v := .agg #[.int .i64 x, .string r]) rfl (by kernel_rfl) (by kernel_rfl) (by kernel_rfl) (by kernel_rfl) (by kernel_rfl) (fun _ _ _ h => h) hS (Or.inl ⟨by kernel_rfl, ?_⟩) ?_
  · (intro w' hSw; (try dsimp only at hSw); go_simp)
  try simp only [Act.put]
  refine wpAnyL_ready (rs := [7]) (by kernel_rfl) (by simp) ?_
  refine AllReadyL.cons rfl (fun K hK => ?_) AllReadyL.nil
  go_simp
  have HW5 : Hid (Below w3.heap.size w3 ((w3.alloc (.cells #[.int .i64 x, .string r] 58)).alloc (.cells #[.int .i64 x, .string r] 58)).drew) := (((Below.refl _ _).alloc (Nat.le_refl _) _).alloc (by rw [alloc_size]; omega) _).drew
  have HG5 : Hid ((((w3.alloc (.cells #[.int .i64 x, .string r] 58)).alloc (.cells #[.int .i64 x, .string r] 58)).drew).heap[w3.heap.size + 1]? = some (.cells #[.int .i64 x, .string r] 58 (0, 0))) := by
    have := heap_alloc_new (w3.alloc (.cells #[.int .i64 x, .string r] 58)) (.cells #[.int .i64 x, .string r] 58)
    rwa [alloc_size] at this
  have HX5 : Hid ((((w3.alloc (.cells #[.int .i64 x, .string r] 58)).alloc (.cells #[.int .i64 x, .string r] 58)).drew).heap[w3.heap.size]? = some (.cells #[.int .i64 x, .string r] 58 (0, 0))) := (Below.heap_alloc _ _ _ (by rw [alloc_size]; omega)).trans (heap_alloc_new w3 _)
  have y0 : (((w3.alloc (.cells #[.int .i64 x, .string r] 58)).alloc (.cells #[.int .i64 x, .string r] 58)).drew).cell? ⟨k1, 0, none⟩ = some (.slice a l.length cap) := (HW5.out.cell (p := ⟨k1, 0, none⟩) (Nat.lt_of_lt_of_le (Array.getElem?_eq_some_iff.1 HK.out).1 HB3.out.size)).trans g0
  refine hK.out _ _ ⟨y0, cell_of_row _ _ 0 _ _ _ HX5.out, cell_of_row _ _ 1 _ _ _ HX5.out⟩ ?_
  clear hK K hS x0 x1 x2 g0 n0
  try simp only [Act.put]
  refine wpAnyL_ready (rs := [8]) (by kernel_rfl) (by simp) ?_
  refine AllReadyL.cons rfl (fun K hK => ?_) AllReadyL.nil
  go_simp
  have HB5 : Hid (Below w.heap.size w ((w3.alloc (.cells #[.int .i64 x, .string r] 58)).alloc (.cells #[.int .i64 x, .string r] 58)).drew) := HB3.out.trans (HW5.out.mono HB3.out.size)
  have HNG : Hid ((Value.slice a l.length cap).ownBlock ≠ some (w3.heap.size + 1)) := fun hh => by
    have := (hown_lt HO.out _ hh).2
    have := HB3.out.size
    omega
  refine (HI.out _ base (w3.heap.size + 1) p _ (hown_later HO.out HB5.out) (Nat.le_trans hB HB5.out.size) HG5.out HNG.out HP3.out.1).mono ?_
  rintro e w6 ⟨v', rfl, ho6, hg6, hn6⟩
  have HE : Hid (NewHead w k1 base (.slice a l.length cap) y l x r (w6.setCell ⟨k1, 0, none⟩ v')) := new_head HK.out HN.out HB5.out (by have := HB3.out.size; have : (((w3.alloc (.cells #[.int .i64 x, .string r] 58)).alloc (.cells #[.int .i64 x, .string r] 58)).drew).heap.size = w3.heap.size + 1 + 1 := ((Array.size_push _).trans (congrArg (· + 1) (alloc_size _ _))); omega) HP3.out ho6 hg6 hn6
  have k6 : Hid (w6.heap[k1]? = some (.cells #[.slice a l.length cap, y] 77 (0, 0))) := (hg6.block k1 (Nat.lt_of_lt_of_le (Array.getElem?_eq_some_iff.1 HK.out).1 HB5.out.size) (fun e => HN.out e.symm)).trans ((HB5.out.block _ (Array.getElem?_eq_some_iff.1 HK.out).1).trans HK.out)
  have q6 : Hid (w6.heap[w3.heap.size]? = some (.cells #[.int .i64 x, .string r] 58 (0, 0))) := (hg6.block _ (Array.getElem?_eq_some_iff.1 HX5.out).1 (fun e => by have := (hown_lt HO.out _ e.symm).2; have := HB3.out.size; omega)).trans HX5.out
  obtain ⟨a6, cap6, hv6⟩ := hown_shape ho6
  subst hv6
  have c6 := cell_of_row _ _ 0 _ _ _ k6.out
  have f6 := frozen_of_row _ _ 0 _ _ k6.out
  have c7 := cell_of_row _ _ 0 _ _ _ q6.out
  have c8 := cell_of_row _ _ 1 _ _ _ q6.out
  generalize (l.take p ++ (x, r) :: l.drop p).length = n6 at *
  clear ho6 hg6 hn6 y0 HX5 HG5 HW5 HB5 HNG HB3 HB2 HP3 HI HO HK HX HN
  refine hK.out _ _ ⟨c6, c7, c8⟩ ?_
  clear hK K
  try simp only [Act.put]
  refine wpAnyL_ready (rs := [9]) (by kernel_rfl) (by simp) ?_
  refine AllReadyL.cons rfl (fun K hK => ?_) AllReadyL.nil
  go_simp
  refine hK.out _ _ ⟨c6, c7, c8⟩ ?_
  clear hK K
  try simp only [Act.put]
  refine wpAnyL_ready (rs := [10]) (by kernel_rfl) (by simp) ?_
  refine AllReadyL.cons rfl (fun K hK => ?_) AllReadyL.nil
  go_simp
  refine hK.out _ _ ⟨c6, c7, c8⟩ ?_
  clear hK K
  try simp only [Act.put]
  refine wpAnyL_ready (rs := [11]) (by kernel_rfl) (by simp) ?_
  refine AllReadyL.last rfl (fun K hK => ?_)
  go_simp
  refine hK.out _ _ ?_
  clear hK K
  refine wpAny_done (by kernel_rfl) ?_ _
  go_wp2_with fail
  go_ret
  exact ⟨rfl, HE.out⟩
end Go.Proofs.YtbmohenjphmlgabGreat
