/- Part 17 of a proof: what the last text needs. -/
import Derived.Test.YtbmohenjphmlgaaGreatPart16
import Derived.Test.YtbmohenjphmlgaaGreatPart14
import Derived.Lib.Overlaps
import Derived.Lib.AppendZerosOnto
import Derived.Test.YtbmohenjphmlgaaGreatPart15
import Derived.Test.YtbmohenjphmlgaaGreatPart3
/- A head is put among others, where there is room (of the program). -/
namespace Go.Proofs.YtbmohenjphmlgaaGreat
open Go.RowKit
set_option maxRecDepth 100000

/-- Heads are copied. -/
theorem run_copy_heads (w : World) (ty : TypeId) (b o dLen dCap : Nat) (a : Addr) (sLen sCap : Nat) (cs : List Value) (hn : cs.length = Nat.min sLen dLen * 2)
    (hsrc : ∀ j v, cs[j]? = some v → w.cell? (a.add j) = some v) {cur : Array Value} (hg : w.heap[b]? = some (.cells cur 99 (0, 0))) (hc : o + cs.length ≤ cur.size) (h1 : ∀ v ∈ cs, v.oneCell' = true) :
    (Builtin.copy_ #[51, 51] ty #[.slice (some ⟨b, o, none⟩) dLen dCap, .slice (some a) sLen sCap]).run Tryz.prog w = .ok (goInt (Nat.min sLen dLen)) (w.setCells b o cs) := by
  have hl := run_loadCells_list (P := Tryz.prog) w a cs hsrc
  have hst := run_storeCells_cells (P := Tryz.prog) b o cs 0 w (fun j hj => by rw [cell_of_row _ _ _ _ _ _ hg, Array.getElem?_eq_getElem (by omega)]; rfl) (fun j hj => frozen_of_row _ _ _ _ _ hg) h1
  simp only [Nat.add_zero] at hst
  obtain ⟨i0, hi, hz0, hz1, hz2⟩ := info_parts infoHead
  simp [Builtin.copy_, run_underlying Tryz.underlying51, Builtin.lenOf, Builtin.firstCells, sizeOf, typeInfo, hi, hz1, ← hn, hl, hst]

theorem wp_copy_runH (w : World) {o : Oper} {a : Act} {K : Act → World → Prop} {Q : Exit → Act → World → Prop} (d s : Operand)
    (ho : o.op = .call { callee := .builtin .copy, args := #[d, s], argTypes := #[51, 51] }) (v u : Value) (hd : a.eval d = v) (hs : a.eval s = u) {v' : Value} {w' : World}
    (hr : (Builtin.copy_ #[51, 51] o.type #[v, u]).run Tryz.prog w = .ok v' w') (h : K (a.put o.dst v') w') : o.wp Tryz.prog a w K Q := by
  unfold Oper.wp execOp
  simp only [ho, resolve, invoke, builtin, Sem.run_bind, Sem.run_pure, Result.andThen_ok, List.map_toArray, List.map_cons, List.map_nil, hd, hs, hr]
  exact h

/-- What lies in the block when heads from p on were moved up by one and a head was put there. -/
theorem shift_block {w : World} {g cap : Nat} {cur : Array Value} {l : List (Int × ByteArray)} {p : Nat} {x : Int} {r : ByteArray} (h : w.heap[g]? = some (.cells cur 99 (0, 0))) (hp : p ≤ l.length) (hn : l.length + 1 ≤ cap) (hcs : cur.size = cap * 2) (ht : cur.toList.take (l.length * 2) = hcells l) :
    ∃ cur', ((w.setCells g ((p + 1) * 2) (hcells (l.drop p))).setCells g (p * 2) [.int .i64 x, .string r]).heap[g]? = some (.cells cur' 99 (0, 0)) ∧ cur'.size = cap * 2 ∧ cur'.toList.take ((l.length + 1) * 2) = hcells (l.take p ++ (x, r) :: l.drop p) := by
  have hl1 : (hcells (l.drop p)).length = (l.length - p) * 2 := by rw [hcells_len, List.length_drop]
  obtain ⟨c1, h1, e1⟩ := block_setCells g (hcells (l.drop p)) ((p + 1) * 2) w cur h (by omega)
  have hc0 : cur.toList.length = cap * 2 := by rw [Array.length_toList]; exact hcs
  have hc1l : c1.toList.length = cap * 2 := by
    rw [e1]
    simp only [List.length_append, List.length_take, List.length_drop, hc0]
    omega
  obtain ⟨c2, h2, e2⟩ := block_setCells g [.int .i64 x, .string r] (p * 2) _ c1 h1 (by rw [← Array.length_toList, hc1l]; simp only [List.length_cons, List.length_nil]; omega)
  refine ⟨c2, h2, ?_, ?_⟩
  · rw [← Array.length_toList, e2]
    simp only [List.length_append, List.length_take, List.length_drop, hc1l, List.length_cons, List.length_nil]
    omega
  · have e3 : cur.toList.take (p * 2) = hcells (l.take p) := by
      rw [← hcells_take, ← ht, List.take_take, Nat.min_eq_left (by omega)]
    have e4 : c1.toList.take (p * 2) = hcells (l.take p) := by
      rw [e1, List.append_assoc, List.take_append_of_le_length (by rw [List.length_take, hc0]; omega), List.take_take, Nat.min_eq_left (by omega), e3]
    have e5 : c1.toList.drop ((p + 1) * 2) = hcells (l.drop p) ++ cur.toList.drop ((p + 1) * 2 + (hcells (l.drop p)).length) := by
      rw [e1, List.append_assoc, List.drop_append_of_le_length (by rw [List.length_take, hc0]; omega), List.drop_of_length_le (by rw [List.length_take, hc0]; omega), List.nil_append]
    rw [e2, e4]
    have e6 : p * 2 + [Value.int .i64 x, Value.string r].length = (p + 1) * 2 := by simp only [List.length_cons, List.length_nil]; omega
    rw [e6, e5]
    have e7 : hcells (l.take p ++ (x, r) :: l.drop p) = hcells (l.take p) ++ [.int .i64 x, .string r] ++ hcells (l.drop p) := by
      rw [hcells_append]
      show hcells (l.take p) ++ (.int .i64 x :: .string r :: hcells (l.drop p)) = _
      simp
    rw [e7, ← List.append_assoc]
    have e8 : (l.length + 1) * 2 = (hcells (l.take p) ++ [Value.int .i64 x, Value.string r] ++ hcells (l.drop p)).length := by
      simp only [List.length_append, hcells_len, List.length_take, List.length_drop, List.length_cons, List.length_nil]
      omega
    rw [e8]
    exact List.take_left

theorem cells_from {w : World} {g p : Nat} {cur : Array Value} {l : List (Int × ByteArray)} (h : w.heap[g]? = some (.cells cur 99 (0, 0))) (ht : cur.toList.take (l.length * 2) = hcells l) : ∀ j u, (hcells (l.drop p))[j]? = some u → w.cell? ((⟨g, p * 2, none⟩ : Addr).add j) = some u := slice_cells h ht (fun _ => rfl)

set_option maxHeartbeats 6400000 in
theorem insert_room (base g g' cap p : Nat) (l : List (Int × ByteArray)) (x : Int) (r : ByteArray) (w : World) (ho : HOwn w base (.slice (some ⟨g', 0, none⟩) l.length cap) l) (hg : w.heap[g]? = some (.cells #[.int .i64 x, .string r] 99 (0, 0))) (hne : g' ≠ g) (hp : p < l.length) (hl : l.length ≤ 1000) (hroom : l.length + 1 ≤ cap) :
    Calls Tryz.prog 54 #[.slice (some ⟨g', 0, none⟩) l.length cap, .int .i64 p, .slice (some ⟨g, 0, none⟩) 1 1] w fun e w' => e = .returned (.slice (some ⟨g', 0, none⟩) (l.length + 1) cap) ∧ HOwn w' base (.slice (some ⟨g', 0, none⟩) (l.length + 1) cap) (l.take p ++ (x, r) :: l.drop p) ∧ Turns (fun k => k = g') w w' := by
  rcases ho.2 with ⟨hv, _⟩ | ⟨g2, cap2, cur, hv, hbg, hcg, hnc, hcm, hcs, htk⟩
  · cases hv
  simp only [Value.slice.injEq, Option.some.injEq, Addr.mk.injEq, and_true, true_and] at hv
  obtain ⟨rfl, rfl⟩ := hv
  obtain ⟨n, hn⟩ : ∃ n, n = l.length := ⟨_, rfl⟩
  have HSB := hid (shift_block (w := w.drew) (x := x) (r := r) hcg (Nat.le_of_lt hp) hroom hcs htk)
  have HLD : Hid ((hcells (l.drop p)).length = (n - p) * 2) := by rw [Hid, hcells_len, List.length_drop, hn]
  have hov : ∀ lb cb, (callFunc 94 #[.slice (some ⟨g, 0, none⟩) 1 1, .slice (some ⟨g', (p + 1) * 2, none⟩) lb cb]).run Tryz.prog w = .ok (.value (.bool false)) w := fun lb cb => by
    rw [run_callFunc_extern Tryz.func94 (by kernel_rfl) (by kernel_rfl) (by kernel_rfl) (e := Extern.SlicesOverlaps.overlaps #[51, 51] #[4]) (by kernel_rfl),
      Lib.run_overlaps_apart w 51 4 99 Tryz.underlying51 2 Tryz.sizeOf99 ⟨g, 0, none⟩ ⟨g', (p + 1) * 2, none⟩ 1 1 lb cb (fun e => hne e.symm) 99 99 2 cur.size (by simp [World.shape?, hg]) (by simp [World.shape?, hcg]) (by omega) (frozen_of_row _ _ _ _ _ hg) (frozen_of_row _ _ _ _ _ hg)]
    rfl
  have HC1 := hid (fun ty dc sc => run_copy_heads w.drew ty g' ((p + 1) * 2) (n + 1 - (p + 1)) dc ⟨g', p * 2, none⟩ (n + 1 - p) sc (hcells (l.drop p)) (by rw [HLD.out]; simp only [Nat.min_def]; split <;> omega) (cells_from hcg htk) hcg (by rw [HLD.out, hcs]; omega) (hcells_one _))
  obtain ⟨c1, hc1, hs1⟩ := block_setCells (e := 99) g' (hcells (l.drop p)) ((p + 1) * 2) w.drew cur hcg (by rw [HLD.out, hcs]; omega)
  have hc0 : cur.toList.length = cap * 2 := by rw [Array.length_toList]; exact hcs
  have hc1l : c1.size = cap * 2 := by
    rw [← Array.length_toList, hs1]
    simp only [List.length_append, List.length_take, List.length_drop, hc0, HLD.out]
    omega
  have HG1 : Hid ((w.drew.setCells g' ((p + 1) * 2) (hcells (l.drop p))).heap[g]? = some (.cells #[.int .i64 x, .string r] 99 (0, 0))) := ((setCells_turns g' w.drew _ _).block g (Array.getElem?_eq_some_iff.1 hg).1 (fun e => hne e.symm)).trans hg
  have HC2 := hid (fun ty dc => run_copy_heads (w.drew.setCells g' ((p + 1) * 2) (hcells (l.drop p))) ty g' (p * 2) (n + 1 - p) dc ⟨g, 0, none⟩ 1 1 [.int .i64 x, .string r] (by simp only [Nat.min_def]; split <;> (simp <;> omega)) (cells_row2 HG1.out) hc1 (by simp only [List.length_cons, List.length_nil]; omega) (by simp [Value.oneCell']))
  have HT : Hid (Turns (fun k => k = g') w ((w.drew.setCells g' ((p + 1) * 2) (hcells (l.drop p))).setCells g' (p * 2) [.int .i64 x, .string r])) := by
    have h0 : Turns (fun k => k = g') w w.drew := ⟨rfl, rfl, rfl, Nat.le_refl _, fun _ _ _ => rfl⟩
    exact (h0.trans (setCells_turns g' _ _ _)).trans (setCells_turns g' _ _ _)
  have HLE : Hid ((l.take p ++ (x, r) :: l.drop p).length = n + 1) := by rw [Hid, hn]; simp; omega
  have HBS := hid (And.intro hbg hcm)
  rw [← hn] at HSB hp hl hroom hnc ⊢
  clear ho hg hcg hcs htk hcm hbg hn hc1 hs1 hc0 hc1l HG1
  have j0 : ¬ (1 : Int) = 0 := by omega
  have j1 : (p : Int) ≤ (n : Int) := by omega
  have j2 : ¬ (p : Int) = (n : Int) := by omega
  have j3 : ¬ (cap : Int) < (n : Int) + 1 := by omega
  have j4 : (n : Int) + 1 ≤ (cap : Int) := by omega
  have j5 : (p : Int) + 1 ≤ (n : Int) + 1 := by omega
  have j6 : (0 : Int) ≤ (p : Int) := by omega
  have j7 : ¬ cap ≤ p + 1 := by omega
  have j8 : ¬ cap ≤ p := by omega
  have j9 : ¬ cap = p + 1 := by omega
  have j10 : ¬ cap = p := by omega
  have j11 : p ≤ n := by omega
  have j12 : p + 1 ≤ n + 1 := by omega
  have j13 : p ≤ n + 1 := by omega
  have hw1 : IntKind.i64.wrap ((p : Int) + 1) = (p : Int) + 1 := by rw [IntKind.wrap_i64]; omega
  have hw2 : ((p : Int) + 1).toNat = p + 1 := by omega
  have k1 : ¬ (n : Int) + 1 < (p : Int) := by omega
  have k2 : ¬ (n : Int) < (p : Int) := by omega
  have k3 : (0 : Int) ≤ (p : Int) + 1 := by omega
  generalize hHD : hcells (l.drop p) = HD at *
  go_enter Tryz.func54, Tryz.ntmps54
  go_wp2_with (simp only [hov])
  have hS : (fun _ : World => True) w.drew := trivial
  refine wp_region_held_drew (S := fun _ => True) (by kernel_rfl) hS (fun _ => ?_)
  refine wpAnyH_take (i := 0) (v := .slice (some ⟨g', 0, none⟩) (n + 1) cap) rfl (by kernel_rfl) (by kernel_rfl) (by kernel_rfl) (fun _ _ _ h => h) (Or.inl ⟨by kernel_rfl, ?_⟩) hS ?_
  · (intro w' hSw; go_simp)
  try simp only [Act.put]
  refine wpAnyH_take (i := 1) (v := .int .i64 p) rfl (by kernel_rfl) (by kernel_rfl) (by kernel_rfl) (fun _ _ _ h => h) (Or.inl ⟨by kernel_rfl, ?_⟩) hS ?_
  · (intro w' hSw; go_simp)
  try simp only [Act.put]
  refine wpAnyH_take (i := 2) (v := .int .i64 1) rfl (by kernel_rfl) (by kernel_rfl) (by kernel_rfl) (fun _ _ _ h => h) (Or.inl ⟨by kernel_rfl, ?_⟩) hS ?_
  · (intro w' hSw; go_simp)
  try simp only [Act.put]
  refine wpAnyH_take (i := 3) (v := .int .i64 ((p : Int) + 1)) rfl (by kernel_rfl) (by kernel_rfl) (by kernel_rfl) (fun _ _ _ h => h) (Or.inl ⟨by kernel_rfl, ?_⟩) hS ?_
  · (intro w' hSw; go_simp)
  try simp only [Act.put]
  refine wpAnyH_take (i := 4) (v := .slice (some ⟨g', (p + 1) * 2, none⟩) (n + 1 - (p + 1)) (cap - (p + 1))) rfl (by kernel_rfl) (by kernel_rfl) (by kernel_rfl) (fun _ _ _ h => h) (Or.inl ⟨by kernel_rfl, ?_⟩) hS ?_
  · (intro w' hSw; go_simp)
  try simp only [Act.put]
  refine wpAnyH_take (i := 5) (v := .slice (some ⟨g', 0, none⟩) (n + 1) cap) rfl (by kernel_rfl) (by kernel_rfl) (by kernel_rfl) (fun _ _ _ h => h) (Or.inl ⟨by kernel_rfl, ?_⟩) hS ?_
  · (intro w' hSw; go_simp)
  try simp only [Act.put]
  refine wpAnyH_take (i := 6) (v := .int .i64 p) rfl (by kernel_rfl) (by kernel_rfl) (by kernel_rfl) (fun _ _ _ h => h) (Or.inl ⟨by kernel_rfl, ?_⟩) hS ?_
  · (intro w' hSw; go_simp)
  try simp only [Act.put]
  refine wpAnyH_take (i := 7) (v := .slice (some ⟨g', p * 2, none⟩) (n + 1 - p) (cap - p)) rfl (by kernel_rfl) (by kernel_rfl) (by kernel_rfl) (fun _ _ _ h => h) (Or.inl ⟨by kernel_rfl, ?_⟩) hS ?_
  · (intro w' hSw; go_simp)
  try simp only [Act.put]
  refine wpAnyH_ready (rs := [8]) (by kernel_rfl) (by simp) ?_
  refine AllReadyH.cons rfl (fun K hK => ?_) AllReadyH.nil
  dsimp only [getElem?_def, Array.getElem?_toList, List.getElem_toArray, List.getElem_cons_succ, List.getElem_cons_zero]
  simp only [List.setIfInBounds_toArray, List.set_cons_succ, List.set_cons_zero]
  rw [if_pos (by simp [Region.wanted])]
  refine wp_copy_runH _ (.tmp 73) (.tmp 76) rfl (.slice (some ⟨g', (p + 1) * 2, none⟩) (n + 1 - (p + 1)) (cap - (p + 1))) (.slice (some ⟨g', p * 2, none⟩) (n + 1 - p) (cap - p)) ?_ ?_ (HC1.out _ _ _) ?_
  · rfl
  · rfl
  refine hK.out _ _ trivial (fun _ => ?_)
  clear hK K hS
  try simp only [Act.put]
  refine wpAnyH_done (by kernel_rfl) ?_ _
  generalize hW : w.drew.setCells g' ((p + 1) * 2) HD = W at *
  go_wp2_with fail
  rw [HC2.out]
  simp only [Result.andThen]
  rw [Oper.upon_value]
  go_wp2_with fail
  go_ret
  obtain ⟨cur', q1, q2, q3⟩ := HSB.out
  exact ⟨rfl, ⟨hcells_len _, .inr ⟨g', cap, cur', by rw [HLE.out], HBS.out.1, q1, by rw [HLE.out]; omega, HBS.out.2, q2, by rw [HLE.out]; exact q3⟩⟩, HT.out⟩
end Go.Proofs.YtbmohenjphmlgaaGreat

/- A head is put among others, where there is no room; a head is put where it belongs (of the program). -/
namespace Go.Proofs.YtbmohenjphmlgaaGreat
open Go.RowKit
set_option maxRecDepth 100000

/-- What lies in a new block that has the first p heads, when a head and the others were put behind them. -/
theorem grow_block {w : World} {g G : Nat} {cur : Array Value} {l : List (Int × ByteArray)} {p : Nat} {x : Int} {r : ByteArray} (h : w.heap[g]? = some (.cells cur 99 (0, 0))) (hp : p ≤ l.length) (hn : l.length + 1 ≤ G) (hcs : cur.size = G * 2) (ht : cur.toList.take (p * 2) = hcells (l.take p)) :
    ∃ c1 cur', (w.setCells g (p * 2) [.int .i64 x, .string r]).heap[g]? = some (.cells c1 99 (0, 0)) ∧ c1.size = G * 2 ∧ ((w.setCells g (p * 2) [.int .i64 x, .string r]).drew.setCells g ((p + 1) * 2) (hcells (l.drop p))).heap[g]? = some (.cells cur' 99 (0, 0)) ∧ cur'.size = G * 2 ∧ cur'.toList.take ((l.length + 1) * 2) = hcells (l.take p ++ (x, r) :: l.drop p) := by
  have hl1 : (hcells (l.drop p)).length = (l.length - p) * 2 := by rw [hcells_len, List.length_drop]
  have hc0 : cur.toList.length = G * 2 := by rw [Array.length_toList]; exact hcs
  obtain ⟨c1, h1, e1⟩ := block_setCells g [.int .i64 x, .string r] (p * 2) w cur h (by rw [hcs]; simp only [List.length_cons, List.length_nil]; omega)
  have hc1l : c1.toList.length = G * 2 := by
    rw [e1]
    simp only [List.length_append, List.length_take, List.length_drop, hc0, List.length_cons, List.length_nil]
    omega
  obtain ⟨c2, h2, e2⟩ := block_setCells g (hcells (l.drop p)) ((p + 1) * 2) (w.setCells g (p * 2) [.int .i64 x, .string r]).drew c1 h1 (by rw [← Array.length_toList, hc1l]; omega)
  refine ⟨c1, c2, h1, by rw [← Array.length_toList, hc1l], h2, ?_, ?_⟩
  · rw [← Array.length_toList, e2]
    simp only [List.length_append, List.length_take, List.length_drop, hc1l]
    omega
  · have e6 : p * 2 + [Value.int .i64 x, Value.string r].length = (p + 1) * 2 := by simp only [List.length_cons, List.length_nil]; omega
    have e4 : c1.toList.take ((p + 1) * 2) = hcells (l.take p) ++ [.int .i64 x, .string r] := by
      rw [e1, ht, e6]
      have : (p + 1) * 2 = (hcells (l.take p) ++ [Value.int .i64 x, Value.string r]).length := by
        simp only [List.length_append, hcells_len, List.length_take, List.length_cons, List.length_nil]
        omega
      rw [this]
      exact List.take_left
    rw [e2, e4]
    have e7 : hcells (l.take p ++ (x, r) :: l.drop p) = hcells (l.take p) ++ [.int .i64 x, .string r] ++ hcells (l.drop p) := by
      rw [hcells_append]
      show hcells (l.take p) ++ (.int .i64 x :: .string r :: hcells (l.drop p)) = _
      simp
    rw [e7]
    have e8 : (l.length + 1) * 2 = (hcells (l.take p) ++ [Value.int .i64 x, Value.string r] ++ hcells (l.drop p)).length := by
      simp only [List.length_append, hcells_len, List.length_take, List.length_drop, List.length_cons, List.length_nil]
      omega
    rw [e8]
    exact List.take_left

set_option maxHeartbeats 6400000 in
theorem insert_grow (base g g' cap p : Nat) (l : List (Int × ByteArray)) (x : Int) (r : ByteArray) (w : World) (ho : HOwn w base (.slice (some ⟨g', 0, none⟩) l.length cap) l) (hB : base ≤ w.heap.size) (hg : w.heap[g]? = some (.cells #[.int .i64 x, .string r] 99 (0, 0))) (hp : p < l.length) (hl : l.length ≤ 1000) (hroom : ¬ l.length + 1 ≤ cap) :
    Calls Tryz.prog 54 #[.slice (some ⟨g', 0, none⟩) l.length cap, .int .i64 p, .slice (some ⟨g, 0, none⟩) 1 1] w fun e w' => ∃ G, e = .returned (.slice (some ⟨w.heap.size, 0, none⟩) (l.length + 1) G) ∧ HOwn w' base (.slice (some ⟨w.heap.size, 0, none⟩) (l.length + 1) G) (l.take p ++ (x, r) :: l.drop p) ∧ Below w.heap.size w w' := by
  rcases ho.2 with ⟨hv, _⟩ | ⟨g2, cap2, cur, hv, hbg, hcg, hnc, hcm, hcs, htk⟩
  · cases hv
  simp only [Value.slice.injEq, Option.some.injEq, Addr.mk.injEq, and_true, true_and] at hv
  obtain ⟨rfl, rfl⟩ := hv
  obtain ⟨n, hn⟩ : ∃ n, n = l.length := ⟨_, rfl⟩
  have hcn : cap = n := by omega
  obtain ⟨i0, hi, hz0, hz1, hz2⟩ := info_parts infoHead
  have hgw := (Array.getElem?_eq_some_iff.1 hg).1
  have hgw' := (Array.getElem?_eq_some_iff.1 hcg).1
  have hik : p + (n + 1 - p) = n + 1 := by omega
  have hpre : cur.toList.take (p * 2) = hcells (l.take p) := by rw [← hcells_take, ← htk, List.take_take, Nat.min_eq_left (by omega)]
  have hold : (Builtin.firstCells i0.size p (.slice (some ⟨g', 0, none⟩) p cap)).run Tryz.prog w.drew = .ok (hcells (l.take p)).toArray w.drew := by
    rw [hz1]
    refine run_firstCells_some w.drew 2 p ⟨g', 0, none⟩ p cap (hcells (l.take p)) (by rw [hcells_len, List.length_take]; omega) (fun j v hj => ?_)
    rw [Addr.add_lit, Nat.zero_add]
    refine (cell_of_row _ _ j _ _ _ hcg).trans ?_
    rw [← hpre, List.getElem?_take] at hj
    split at hj
    · simpa using hj
    · cases hj
  have hrz : ∀ ty, (Builtin.append_ #[51, 3] ty #[.slice (some ⟨g', 0, none⟩) p cap, .int .i64 ((n : Int) + 1 - (p : Int))]).run Tryz.prog w =
      .ok (.slice (some ⟨w.heap.size, 0, none⟩) (n + 1) (grownCap w (n + 1) cap 99)) (w.drew.alloc (.cells ((hcells (l.take p)).toArray ++ Builtin.zeroCells (Value.agg #[.int .i64 0, .string ⟨#[]⟩]).cells (n + 1 - p) ++ Builtin.zeroCells (Value.agg #[.int .i64 0, .string ⟨#[]⟩]).cells (grownCap w (n + 1) cap 99 - (n + 1))) 99)) := fun ty => by
    have h := Lib.run_append_grow_zeros w 51 3 ty 99 i0 _ .i64 .i64 Tryz.underlying51 Tryz.underlying3 hi hz0 (some ⟨g', 0, none⟩) p cap (hcells (l.take p)) hold (n + 1 - p) (by omega) (by omega) (by omega) (by omega) (by rw [hz2]; omega) (by rw [hz2, hik]; exact growslice_fits (by omega) (by omega))
    rw [hik] at h
    rw [show (n : Int) + 1 - (p : Int) = ((n + 1 - p : Nat) : Int) by omega]
    exact h
  have hGn := grownCap_ge w (n + 1) cap 99
  have hGm := grownCap_le_maxLen w (n + 1) cap 99 (by unfold maxLen; omega)
  generalize grownCap w (n + 1) cap 99 = G at *
  obtain ⟨ROW, hROW⟩ : ∃ ROW : Array Value, ROW = (hcells (l.take p)).toArray ++ Builtin.zeroCells (Value.agg #[.int .i64 0, .string ⟨#[]⟩]).cells (n + 1 - p) ++ Builtin.zeroCells (Value.agg #[.int .i64 0, .string ⟨#[]⟩]).cells (G - (n + 1)) := ⟨_, rfl⟩
  rw [← hROW] at hrz
  have hRs : ROW.size = G * 2 := by
    rw [hROW]
    simp only [Array.size_append, List.size_toArray, size_zeroCells, hcells_len, List.length_take]
    have : (Value.agg #[.int .i64 0, .string ⟨#[]⟩]).cells.size = 2 := rfl
    rw [this, Nat.min_eq_left (by omega)]
    omega
  have hRt : ROW.toList.take (p * 2) = hcells (l.take p) := by
    rw [hROW]
    simp only [Array.toList_append, List.append_assoc]
    have : p * 2 = (hcells (l.take p)).length := by rw [hcells_len, List.length_take]; omega
    rw [this]
    exact List.take_left
  have hN : (w.drew.alloc (.cells ROW 99)).heap[w.heap.size]? = some (.cells ROW 99 (0, 0)) := heap_alloc_new w.drew _
  obtain ⟨c1, cur', k1, k2, k3, k4, k5⟩ := grow_block (x := x) (r := r) hN (by omega : p ≤ l.length) (by omega) hRs hRt
  have HC1 := hid (fun ty dc => run_copy_heads (w.drew.alloc (.cells ROW 99)) ty w.heap.size (p * 2) (n + 1 - p) dc ⟨g, 0, none⟩ 1 1 [.int .i64 x, .string r] (by simp only [Nat.min_def]; split <;> (simp <;> omega)) (cells_row2 (by rw [heap_alloc_old w.drew _ hgw]; exact hg)) hN (by simp only [List.length_cons, List.length_nil]; omega) (by simp [Value.oneCell']))
  have HLD : Hid ((hcells (l.drop p)).length = (n - p) * 2) := by rw [Hid, hcells_len, List.length_drop, hn]
  have hcg2 : ((w.drew.alloc (.cells ROW 99)).setCells w.heap.size (p * 2) [.int .i64 x, .string r]).drew.heap[g']? = some (.cells cur 99 (0, 0)) := by
    refine ((setCells_turns w.heap.size (w.drew.alloc (.cells ROW 99)) _ _).block g' (by simp; omega) (by omega)).trans ?_
    rw [heap_alloc_old w.drew _ hgw']
    exact hcg
  have HC2 := hid (fun ty dc sc => run_copy_heads ((w.drew.alloc (.cells ROW 99)).setCells w.heap.size (p * 2) [.int .i64 x, .string r]).drew ty w.heap.size ((p + 1) * 2) (n + 1 - (p + 1)) dc ⟨g', p * 2, none⟩ (n - p) sc (hcells (l.drop p)) (by rw [HLD.out]; simp only [Nat.min_def]; split <;> omega) (cells_from hcg2 htk) k1 (by rw [HLD.out, k2]; omega) (hcells_one _))
  have HT : Hid (Below w.heap.size w (((w.drew.alloc (.cells ROW 99)).setCells w.heap.size (p * 2) [.int .i64 x, .string r]).drew.setCells w.heap.size ((p + 1) * 2) (hcells (l.drop p)))) := by
    have h0 : Below w.heap.size w (w.drew.alloc (.cells ROW 99)) := ((Below.refl _ _).drew).alloc (Nat.le_refl _) _
    have h1 := (setCells_turns w.heap.size (w.drew.alloc (.cells ROW 99)) (p * 2) [.int .i64 x, .string r]).below h0 h0.size (fun k hk => by omega)
    exact (setCells_turns w.heap.size _ ((p + 1) * 2) (hcells (l.drop p))).below (Below.drew h1) h1.size (fun k hk => by omega)
  have HLE : Hid ((l.take p ++ (x, r) :: l.drop p).length = n + 1) := by rw [Hid, hn]; simp; omega
  have HEND : Hid (HOwn (((w.drew.alloc (.cells ROW 99)).setCells w.heap.size (p * 2) [.int .i64 x, .string r]).drew.setCells w.heap.size ((p + 1) * 2) (hcells (l.drop p))) base (.slice (some ⟨w.heap.size, 0, none⟩) (n + 1) G) (l.take p ++ (x, r) :: l.drop p)) :=
    ⟨hcells_len _, .inr ⟨w.heap.size, G, cur', by rw [HLE.out], hB, k3, by rw [HLE.out]; omega, hGm, k4, by rw [HLE.out, hn]; exact k5⟩⟩
  rw [← hn] at hp hl hroom hnc ⊢
  clear ho hg hcg hcs htk hcm hbg hold hROW hRs hRt hN k1 k2 k3 k4 k5 hcg2 hpre hn
  subst hcn
  have j0 : ¬ (1 : Int) = 0 := by omega
  have j1 : (p : Int) ≤ (cap : Int) := by omega
  have j2 : ¬ (p : Int) = (cap : Int) := by omega
  have j3 : (cap : Int) < (cap : Int) + 1 := by omega
  have j5 : (p : Int) + 1 ≤ (cap : Int) + 1 := by omega
  have j6 : (0 : Int) ≤ (p : Int) := by omega
  have j11 : p ≤ cap := by omega
  have j12 : p + 1 ≤ cap + 1 := by omega
  have j13 : p ≤ cap + 1 := by omega
  have j14 : ¬ G = p := by omega
  have j15 : ¬ G = p + 1 := by omega
  have j16 : ¬ cap = p := by omega
  have j17 : (cap : Int) + 1 ≤ (G : Int) := by omega
  have hw1 : IntKind.i64.wrap ((p : Int) + 1) = (p : Int) + 1 := by rw [IntKind.wrap_i64]; omega
  have hw2 : ((p : Int) + 1).toNat = p + 1 := by omega
  have k1 : ¬ (cap : Int) + 1 < (p : Int) := by omega
  have k2 : ¬ (cap : Int) < (p : Int) := by omega
  have k3 : (0 : Int) ≤ (p : Int) + 1 := by omega
  have k4 : ¬ G ≤ p + 1 := by omega
  have k5 : ¬ G ≤ p := by omega
  have k6 : ¬ cap ≤ p := by omega
  generalize hHD : hcells (l.drop p) = HD at *
  unfold maxLen at hGm
  go_enter Tryz.func54, Tryz.ntmps54
  go_wp2_with (first
    | (at_builtin; refine Lib.wpList_append_run _ rfl _ _ _ _ rfl _ _ rfl rfl _ _ (hrz _) ?_)
    | fail)
  rw [show (w.alloc (.cells ROW 99)).drew = w.drew.alloc (.cells ROW 99) from rfl, HC1.out]
  simp only [Result.andThen]
  rw [Oper.upon_value]
  generalize hW : (w.drew.alloc (.cells ROW 99)).setCells w.heap.size (p * 2) [.int .i64 x, .string r] = W at *
  go_wp2_with fail
  have hS : (fun _ : World => True) W.drew := trivial
  refine wp_region_held_drew (S := fun _ => True) (by kernel_rfl) hS (fun _ => ?_)
  refine wpAnyH_take (i := 0) (v := .slice (some ⟨w.heap.size, 0, none⟩) (cap + 1) G) rfl (by kernel_rfl) (by kernel_rfl) (by kernel_rfl) (fun _ _ _ h => h) (Or.inl ⟨by kernel_rfl, ?_⟩) hS ?_
  · (intro w' hSw; go_simp)
  try simp only [Act.put]
  refine wpAnyH_take (i := 1) (v := .int .i64 p) rfl (by kernel_rfl) (by kernel_rfl) (by kernel_rfl) (fun _ _ _ h => h) (Or.inl ⟨by kernel_rfl, ?_⟩) hS ?_
  · (intro w' hSw; go_simp)
  try simp only [Act.put]
  refine wpAnyH_take (i := 2) (v := .int .i64 1) rfl (by kernel_rfl) (by kernel_rfl) (by kernel_rfl) (fun _ _ _ h => h) (Or.inl ⟨by kernel_rfl, ?_⟩) hS ?_
  · (intro w' hSw; go_simp)
  try simp only [Act.put]
  refine wpAnyH_take (i := 3) (v := .int .i64 ((p : Int) + 1)) rfl (by kernel_rfl) (by kernel_rfl) (by kernel_rfl) (fun _ _ _ h => h) (Or.inl ⟨by kernel_rfl, ?_⟩) hS ?_
  · (intro w' hSw; go_simp)
  try simp only [Act.put]
  refine wpAnyH_take (i := 4) (v := .slice (some ⟨w.heap.size, (p + 1) * 2, none⟩) (cap + 1 - (p + 1)) (G - (p + 1))) rfl (by kernel_rfl) (by kernel_rfl) (by kernel_rfl) (fun _ _ _ h => h) (Or.inl ⟨by kernel_rfl, ?_⟩) hS ?_
  · (intro w' hSw; go_simp)
  try simp only [Act.put]
  refine wpAnyH_take (i := 5) (v := .slice (some ⟨g', 0, none⟩) cap cap) rfl (by kernel_rfl) (by kernel_rfl) (by kernel_rfl) (fun _ _ _ h => h) (Or.inl ⟨by kernel_rfl, ?_⟩) hS ?_
  · (intro w' hSw; go_simp)
  try simp only [Act.put]
  refine wpAnyH_take (i := 6) (v := .int .i64 p) rfl (by kernel_rfl) (by kernel_rfl) (by kernel_rfl) (fun _ _ _ h => h) (Or.inl ⟨by kernel_rfl, ?_⟩) hS ?_
  · (intro w' hSw; go_simp)
  try simp only [Act.put]
  refine wpAnyH_take (i := 7) (v := .slice (some ⟨g', p * 2, none⟩) (cap - p) (cap - p)) rfl (by kernel_rfl) (by kernel_rfl) (by kernel_rfl) (fun _ _ _ h => h) (Or.inl ⟨by kernel_rfl, ?_⟩) hS ?_
  · (intro w' hSw; go_simp)
  try simp only [Act.put]
  refine wpAnyH_ready (rs := [8]) (by kernel_rfl) (by simp) ?_
  refine AllReadyH.cons rfl (fun K hK => ?_) AllReadyH.nil
  dsimp only [getElem?_def, Array.getElem?_toList, List.getElem_toArray, List.getElem_cons_succ, List.getElem_cons_zero]
  simp only [List.setIfInBounds_toArray, List.set_cons_succ, List.set_cons_zero]
  rw [if_pos (by simp [Region.wanted])]
  refine wp_copy_runH _ (.tmp 50) (.tmp 53) rfl (.slice (some ⟨w.heap.size, (p + 1) * 2, none⟩) (cap + 1 - (p + 1)) (G - (p + 1))) (.slice (some ⟨g', p * 2, none⟩) (cap - p) (cap - p)) ?_ ?_ (HC2.out _ _ _) ?_
  · rfl
  · rfl
  refine hK.out _ _ trivial (fun _ => ?_)
  clear hK K hS
  try simp only [Act.put]
  refine wpAnyH_done (by kernel_rfl) ?_ _
  go_wp2_with fail
  go_ret
  exact ⟨G, rfl, HEND.out, HT.out⟩

/-- A head is put where it belongs. -/
theorem insert_any (l : List (Int × ByteArray)) (x : Int) (r : ByteArray) (hl : l.length ≤ 1000) : InsOk l x r := by
  intro w base g p v ho hB hg hne hp h1 h2
  rcases Nat.lt_or_ge p l.length with hlt | hge
  · obtain ⟨a, cap, rfl⟩ := hown_shape ho
    have hsh : ∃ g', a = some ⟨g', 0, none⟩ := by
      rcases id ho.2 with ⟨_, h0⟩ | ⟨g', cap', cur, hv, _⟩
      · omega
      · simp only [Value.slice.injEq] at hv; exact ⟨g', hv.1⟩
    obtain ⟨g', rfl⟩ := hsh
    by_cases hroom : l.length + 1 ≤ cap
    · refine (insert_room base g g' cap p l x r w ho hg (fun e => hne (by rw [e]; rfl)) hlt hl hroom).mono ?_
      rintro e w' ⟨rfl, q1, q2⟩
      exact ⟨_, rfl, q1, ⟨q2.os, q2.tape, q2.output, q2.size, fun k hk hn => q2.block k hk (fun e => hn (by rw [e]; rfl))⟩, .inl rfl⟩
    · refine (insert_grow base g g' cap p l x r w ho hB hg hlt hl hroom).mono ?_
      rintro e w' ⟨G, rfl, q1, q2⟩
      exact ⟨_, rfl, q1, ⟨q2.os, q2.tape, q2.output, q2.size, fun k hk _ => q2.block k hk⟩, .inr ⟨w.heap.size, rfl, Nat.le_refl _⟩⟩
  · exact insert_end l x r hl (fun q hq => by
      obtain ⟨i, hi, rfl⟩ := List.getElem_of_mem hq
      exact h1 i hi (by omega)) w base g p v ho hB hg hne hp h1 h2
end Go.Proofs.YtbmohenjphmlgaaGreat

/- Texts that can be read are appended to a row of texts of a call's own: for a walk. -/
namespace Go.Proofs.YtbmohenjphmlgaaGreat
open Go.RowKit
set_option maxRecDepth 100000

theorem srd_cells {w : World} {l : List ByteArray} {B : Nat} {p : Addr} (h : SRd B w (some p) l) : ∀ j u, (tcells l)[j]? = some u → w.cell? (p.add j) = some u := by
  intro j u hu
  have hj : j < l.length := by rw [← tcells_len]; exact (List.getElem?_eq_some_iff.1 hu).1
  obtain ⟨b, off, e, _, c0⟩ := h j hj
  cases e
  have hadd : (⟨b, off, none⟩ : Addr).add j = ⟨b, off + j, none⟩ := by unfold Addr.add; split <;> simp_all
  rw [hadd]
  rw [tcells_at l j hj] at hu
  cases hu
  exact c0

theorem wpList_append_texts {ops : Array Oper} {rest : List Oper} {o : Oper} {act : Act} {Q : Exit → Act → World → Prop} (w : World) (hgd : o.guard = none) (s x : Operand)
    (hop : o.op = .call { callee := .builtin .append, args := #[s, x], argTypes := #[28, 28] })
    (base B : Nat) (v1 : Value) (a2 : Option Addr) (c2 : Nat) (l1 l2 : List ByteArray) (hs : act.eval s = v1) (hx : act.eval x = .slice a2 l2.length c2) (h1 : TOwn w base v1 l1) (h2 : SRd B w a2 l2) (hn : a2 = none → l2.length = 0 ∧ c2 = 0) (hlen : l1.length + l2.length ≤ 1000000) (hbase : base ≤ w.heap.size)
    (h : ∀ v' w', TOwn w' base v' (l1 ++ l2) → w.grownBy w' v1.ownBlock → Newer w v1 v' → wpList Tryz.prog ops Q rest (act.put o.dst v') w') :
    wpList Tryz.prog ops Q (o :: rest) act w := by
  obtain ⟨i0, hi, hz0, hz1, hz2⟩ := info_parts infoText
  cases a2 with
  | none =>
    obtain ⟨e1, e2⟩ := hn rfl
    obtain rfl : l2 = [] := List.eq_nil_of_length_eq_zero e1
    subst e2
    refine wpList_plain hgd fun K hK => ?_
    have hr := run_append_owned_none (P := Tryz.prog) w base 28 o.type 9 i0 1 Tryz.underlying28 hi v1 _ _ h1
    unfold Oper.wp execOp
    simp only [hop, resolve, invoke, builtin, Sem.run_bind, Sem.run_pure, Result.andThen_ok, List.map_toArray, List.map_cons, List.map_nil, hs, hx, List.length_nil, hr]
    exact hK _ _ (h v1 w (by rw [List.append_nil]; exact h1) (World.grownBy.refl _ _) (.inl rfl))
  | some p =>
    refine wpList_append_mine w hgd s x 28 hop base 9 i0 _ 1 16 Tryz.underlying28 hi hz0 hz1 hz2 rfl (by decide) v1 l1.length (tcells l1) hs h1 p l2.length c2 (tcells l2) hx (by rw [tcells_len, Nat.mul_one]) (srd_cells h2) (tcells_one l2) (by unfold maxLen; omega) (by omega) hbase ?_
    intro v' w' ho hg hn
    refine h v' w' ?_ hg hn
    unfold TOwn
    rw [List.length_append, show tcells (l1 ++ l2) = tcells l1 ++ tcells l2 by simp [tcells]]
    exact ho

theorem town_none {w : World} {b : Nat} {n cap : Nat} {a : Option Addr} {l : List ByteArray} (h : TOwn w b (.slice a n cap) l) : a = none → l.length = 0 ∧ cap = 0 := by
  intro ha
  rcases h.2 with ⟨hv, h0⟩ | ⟨g, cap', cur, hv, _⟩
  · simp only [Value.slice.injEq] at hv; exact ⟨h0, hv.2.2⟩
  · simp only [Value.slice.injEq] at hv; rw [ha] at hv; cases hv.1

end Go.Proofs.YtbmohenjphmlgaaGreat

/- The walk of Sum (of the document's own answer). -/
namespace Go.Proofs.YtbmohenjphmlgaaGreat
open Go.RowKit
set_option maxRecDepth 100000

set_option maxHeartbeats 1600000 in
theorem sumR_any (s : ByteArray) (w : World) (hs : s.size ≤ 1000000000) : Calls Tryz.prog 71 #[.string s] w fun e w' => e = .returned (.string ⟨(Tr.sum s.data.toList).toArray⟩) ∧ Below w.heap.size w w' := by
  go_enter Tryz.func71, Tryz.ntmps71
  go_wp2_with fail
  go_loopw [3, 4] (fun h i wr => ∃ k : Nat, h = .int .u64 (Tr.fnv (s.data.toList.take k)) ∧ i = .int .i64 k ∧ k ≤ s.size ∧ wr = w) (fun _ i _ => s.size - (intOf i).toNat)
  case atStart => exact ⟨0, by rw [List.take_zero, Tr.fnv_nil]; simp, rfl, Nat.zero_le _, rfl⟩
  case round =>
    obtain ⟨k, rfl, rfl, hk, rfl⟩ := hrel
    by_cases hlt : k < s.size
    · have i1 : (0 : Int) ≤ (k : Int) := by omega
      have i2 : (k : Int) < (s.size : Int) := by omega
      have HF := hid (step_val (Tr.fnv (s.data.toList.take k)) s[k] (Tr.fnv_lt _))
      have HS := hid (fnv_snoc s k hlt)
      go_wp2_with fail
      exact ⟨⟨k + 1, by rw [HF.out, HS.out], by go_num, by omega, trivial⟩, by simp [intOf]; omega⟩
    · have i2 : ¬ (k : Int) < (s.size : Int) := by omega
      have HK : Hid (Tr.fnv (s.data.toList.take k) = Tr.fnv s.data.toList) := by rw [Hid, List.take_of_length_le (by rw [ba_len]; omega)]
      rw [HK.out]
      have HLT := hid (Tr.fnv_lt s.data.toList)
      have HSE := hid (Tr.sum_eq s.data.toList)
      generalize Tr.fnv s.data.toList = n at *
      clear HK hlt hk
      go_wp2_with fail
      go_loopw [5, 6] (fun b i wx => ∃ m : Nat, i = .int .i64 (7 - (m : Int)) ∧ m ≤ 8 ∧ Hid (Bown wx wr.heap.size b ((List.range m).map (Tr.sumAt n)) ∧ Below wr.heap.size wr wx)) (fun _ i _ => (1 + intOf i).toNat)
      case atStart => exact ⟨0, rfl, by omega, bown_nil _ _, Below.refl _ _⟩
      case round =>
        obtain ⟨m, rfl, hm, HH⟩ := hrel
        obtain ⟨ab, cb, hv⟩ := bown_shape HH.out.1
        rw [show ((List.range m).map (Tr.sumAt n)).length = m by simp] at hv
        subst hv
        by_cases hlt2 : m < 8
        · have j1 : (0 : Int) ≤ 7 - (m : Int) := by omega
          have HZ : Hid (#[Value.int .u8 (bits .and .u64 ((n : Int) / 2 ^ (8 * (7 - m))) 255 % 256)].toList = Lib.byteCells [Tr.sumAt n m]) := by
            rw [Hid]
            simp only [Lib.byteCells, List.map_cons, List.map_nil]
            rw [sum_byte n m HLT.out]
          have HM : Hid ((List.range m).map (Tr.sumAt n) ++ [Tr.sumAt n m] = (List.range (m + 1)).map (Tr.sumAt n)) := by rw [Hid, List.range_succ, List.map_append]; rfl
          have HLN : Hid (((List.range m).map (Tr.sumAt n)).length + 1 ≤ 1000000000) := by rw [Hid]; simp; omega
          go_wp2_with (at_builtin; refine wpList_push_bytes rfl (.tmp 24) (.tmp 31) rfl [Tr.sumAt n m] wr.heap.size rfl rfl rfl HH.out.1 HH.out.2 (Nat.le_refl _) HZ.out HLN.out ?_; intro v' w' ho' hb'; have HO' := hid ho'; have HB' := hid hb'; clear ho' hb')
          exact ⟨⟨m + 1, by go_num, by omega, by rw [← HM.out]; exact HO'.out, HB'.out⟩, by simp [intOf]; omega⟩
        · have j1 : ¬ (0 : Int) ≤ 7 - (m : Int) := by omega
          obtain rfl : m = 8 := by omega
          have hcv := run_bytes_string (brd_of_bown HH.out.1)
          go_wp2_with fail
          go_ret
          exact ⟨by rw [HSE.out]; rfl, HH.out.2⟩
end Go.Proofs.YtbmohenjphmlgaaGreat
