/- Part 16 of a proof: what the last text needs. -/
import Derived.Test.YtbmohenjphmlgaaGreatPart15
import Derived.Test.YtbmohenjphmlgaaGreatPart14
import Derived.Test.YtbmohenjphmlgaaGreatPart3
import Derived.Test.YtbmohenjphmlgaaGreatPart13
import Derived.Test.YtbmohenjphmlgaaGreatPart12
/- A head is put among others, where there is no room; a head is put where it belongs (of the program). -/
namespace Go.Proofs.YtbmohenjphmlgaaGreat
open Go.RowKit
set_option maxRecDepth 100000

/-- What lies in a new block that has the first p heads, when a head and the others were put behind them. -/
theorem grow_block {w : World} {g G : Nat} {cur : Array Value} {l : List (Int × ByteArray)} {p : Nat} {x : Int} {r : ByteArray} (h : w.heap[g]? = some (.cells cur 99 (0, 0))) (hp : p ≤ l.length) (hn : l.length + 1 ≤ G) (hcs : cur.size = G * 2) (ht : cur.toList.take (p * 2) = hcells (l.take p)) :
    ∃ c1 cur', (w.setCells g (p * 2) [.int .i64 x, .string r]).heap[g]? = some (.cells c1 99 (0, 0)) ∧ c1.size = G * 2 ∧ ((w.setCells g (p * 2) [.int .i64 x, .string r]).drew.setCells g ((p + 1) * 2) (hcells (l.drop p))).heap[g]? = some (.cells cur' 99 (0, 0)) ∧ cur'.size = G * 2 ∧ cur'.toList.take ((l.length + 1) * 2) = hcells (l.take p ++ (x, r) :: l.drop p) := by
  have hl1 : (hcells (l.drop p)).length = (l.length - p) * 2 := by rw [hcells_len, List.length_drop]
  have hc0 : cur.toList.length = G * 2 := by rw [Array.length_toList]; exact hcs
  obtain ⟨c1, h1, e1⟩ := block_setCells g [.int .i64 x, .string r] (p * 2) w cur h (by rw [hcs]; simp only [List.length_cons, List.length_nil]; omega)
  have hc1l : c1.toList.length = G * 2 := by
    rw [e1]
    simp only [List.length_append, List.length_take, List.length_drop, hc0, List.length_cons, List.length_nil]
    omega
  obtain ⟨c2, h2, e2⟩ := block_setCells g (hcells (l.drop p)) ((p + 1) * 2) (w.setCells g (p * 2) [.int .i64 x, .string r]).drew c1 h1 (by rw [← Array.length_toList, hc1l]; omega)
  refine ⟨c1, c2, h1, by rw [← Array.length_toList, hc1l], h2, ?_, ?_⟩
  · rw [← Array.length_toList, e2]
    simp only [List.length_append, List.length_take, List.length_drop, hc1l]
    omega
  · have e6 : p * 2 + [Value.int .i64 x, Value.string r].length = (p + 1) * 2 := by simp only [List.length_cons, List.length_nil]; omega
    have e4 : c1.toList.take ((p + 1) * 2) = hcells (l.take p) ++ [.int .i64 x, .string r] := by
      rw [e1, ht, e6]
      have : (p + 1) * 2 = (hcells (l.take p) ++ [Value.int .i64 x, Value.string r]).length := by
        simp only [List.length_append, hcells_len, List.length_take, List.length_cons, List.length_nil]
        omega
      rw [this]
      exact List.take_left
    rw [e2, e4]
    have e7 : hcells (l.take p ++ (x, r) :: l.drop p) = hcells (l.take p) ++ [.int .i64 x, .string r] ++ hcells (l.drop p) := by
      rw [hcells_append]
      show hcells (l.take p) ++ (.int .i64 x :: .string r :: hcells (l.drop p)) = _
      simp
    rw [e7]
    have e8 : (l.length + 1) * 2 = (hcells (l.take p) ++ [Value.int .i64 x, Value.string r] ++ hcells (l.drop p)).length := by
      simp only [List.length_append, hcells_len, List.length_take, List.length_drop, List.length_cons, List.length_nil]
      omega
    rw [e8]
    exact List.take_left

set_option maxHeartbeats 6400000 in
theorem insert_grow (base g g' cap p : Nat) (l : List (Int × ByteArray)) (x : Int) (r : ByteArray) (w : World) (ho : HOwn w base (.slice (some ⟨g', 0, none⟩) l.length cap) l) (hB : base ≤ w.heap.size) (hg : w.heap[g]? = some (.cells #[.int .i64 x, .string r] 99 (0, 0))) (hp : p < l.length) (hl : l.length ≤ 1000) (hroom : ¬ l.length + 1 ≤ cap) :
    Calls Tryz.prog 54 #[.slice (some ⟨g', 0, none⟩) l.length cap, .int .i64 p, .slice (some ⟨g, 0, none⟩) 1 1] w fun e w' => ∃ G, e = .returned (.slice (some ⟨w.heap.size, 0, none⟩) (l.length + 1) G) ∧ HOwn w' base (.slice (some ⟨w.heap.size, 0, none⟩) (l.length + 1) G) (l.take p ++ (x, r) :: l.drop p) ∧ Below w.heap.size w w' := by
  rcases ho.2 with ⟨hv, _⟩ | ⟨g2, cap2, cur, hv, hbg, hcg, hnc, hcm, hcs, htk⟩
  · cases hv
  simp only [Value.slice.injEq, Option.some.injEq, Addr.mk.injEq, and_true, true_and] at hv
  obtain ⟨rfl, rfl⟩ := hv
  obtain ⟨n, hn⟩ : ∃ n, n = l.length := ⟨_, rfl⟩
  have hcn : cap = n := by omega
  obtain ⟨i0, hi, hz0, hz1, hz2⟩ := info_parts infoHead
  have hgw := (Array.getElem?_eq_some_iff.1 hg).1
  have hgw' := (Array.getElem?_eq_some_iff.1 hcg).1
  have hik : p + (n + 1 - p) = n + 1 := by omega
  have hpre : cur.toList.take (p * 2) = hcells (l.take p) := by rw [← hcells_take, ← htk, List.take_take, Nat.min_eq_left (by omega)]
  have hold : (Builtin.firstCells i0.size p (.slice (some ⟨g', 0, none⟩) p cap)).run Tryz.prog w.drew = .ok (hcells (l.take p)).toArray w.drew := by
    rw [hz1]
    refine run_firstCells_some w.drew 2 p ⟨g', 0, none⟩ p cap (hcells (l.take p)) (by rw [hcells_len, List.length_take]; omega) (fun j v hj => ?_)
    rw [Addr.add_lit, Nat.zero_add]
    refine (cell_of_row _ _ j _ _ _ hcg).trans ?_
    rw [← hpre, List.getElem?_take] at hj
    split at hj
    · simpa using hj
    · cases hj
  have hrz : ∀ ty, (Builtin.append_ #[51, 3] ty #[.slice (some ⟨g', 0, none⟩) p cap, .int .i64 ((n : Int) + 1 - (p : Int))]).run Tryz.prog w =
      .ok (.slice (some ⟨w.heap.size, 0, none⟩) (n + 1) (grownCap w (n + 1) cap 99)) (w.drew.alloc (.cells ((hcells (l.take p)).toArray ++ Builtin.zeroCells (Value.agg #[.int .i64 0, .string ⟨#[]⟩]).cells (n + 1 - p) ++ Builtin.zeroCells (Value.agg #[.int .i64 0, .string ⟨#[]⟩]).cells (grownCap w (n + 1) cap 99 - (n + 1))) 99)) := fun ty => by
    have h := Lib.run_append_grow_zeros w 51 3 ty 99 i0 _ .i64 .i64 Tryz.underlying51 Tryz.underlying3 hi hz0 (some ⟨g', 0, none⟩) p cap (hcells (l.take p)) hold (n + 1 - p) (by omega) (by omega) (by omega) (by omega) (by rw [hz2]; omega) (by rw [hz2, hik]; exact growslice_fits (by omega) (by omega))
    rw [hik] at h
    rw [show (n : Int) + 1 - (p : Int) = ((n + 1 - p : Nat) : Int) by omega]
    exact h
  have hGn := grownCap_ge w (n + 1) cap 99
  have hGm := grownCap_le_maxLen w (n + 1) cap 99 (by unfold maxLen; omega)
  generalize grownCap w (n + 1) cap 99 = G at *
  obtain ⟨ROW, hROW⟩ : ∃ ROW : Array Value, ROW = (hcells (l.take p)).toArray ++ Builtin.zeroCells (Value.agg #[.int .i64 0, .string ⟨#[]⟩]).cells (n + 1 - p) ++ Builtin.zeroCells (Value.agg #[.int .i64 0, .string ⟨#[]⟩]).cells (G - (n + 1)) := ⟨_, rfl⟩
  rw [← hROW] at hrz
  have hRs : ROW.size = G * 2 := by
    rw [hROW]
    simp only [Array.size_append, List.size_toArray, size_zeroCells, hcells_len, List.length_take]
    have : (Value.agg #[.int .i64 0, .string ⟨#[]⟩]).cells.size = 2 := rfl
    rw [this, Nat.min_eq_left (by omega)]
    omega
  have hRt : ROW.toList.take (p * 2) = hcells (l.take p) := by
    rw [hROW]
    simp only [Array.toList_append, List.append_assoc]
    have : p * 2 = (hcells (l.take p)).length := by rw [hcells_len, List.length_take]; omega
    rw [this]
    exact List.take_left
  have hN : (w.drew.alloc (.cells ROW 99)).heap[w.heap.size]? = some (.cells ROW 99 (0, 0)) := heap_alloc_new w.drew _
  obtain ⟨c1, cur', k1, k2, k3, k4, k5⟩ := grow_block (x := x) (r := r) hN (by omega : p ≤ l.length) (by omega) hRs hRt
  have HC1 := hid (fun ty dc => run_copy_heads (w.drew.alloc (.cells ROW 99)) ty w.heap.size (p * 2) (n + 1 - p) dc ⟨g, 0, none⟩ 1 1 [.int .i64 x, .string r] (by simp only [Nat.min_def]; split <;> (simp <;> omega)) (cells_row2 (by rw [heap_alloc_old w.drew _ hgw]; exact hg)) hN (by simp only [List.length_cons, List.length_nil]; omega) (by simp [Value.oneCell']))
  have HLD : Hid ((hcells (l.drop p)).length = (n - p) * 2) := by rw [Hid, hcells_len, List.length_drop, hn]
  have hcg2 : ((w.drew.alloc (.cells ROW 99)).setCells w.heap.size (p * 2) [.int .i64 x, .string r]).drew.heap[g']? = some (.cells cur 99 (0, 0)) := by
    refine ((setCells_turns w.heap.size (w.drew.alloc (.cells ROW 99)) _ _).block g' (by simp; omega) (by omega)).trans ?_
    rw [heap_alloc_old w.drew _ hgw']
    exact hcg
  have HC2 := hid (fun ty dc sc => run_copy_heads ((w.drew.alloc (.cells ROW 99)).setCells w.heap.size (p * 2) [.int .i64 x, .string r]).drew ty w.heap.size ((p + 1) * 2) (n + 1 - (p + 1)) dc ⟨g', p * 2, none⟩ (n - p) sc (hcells (l.drop p)) (by rw [HLD.out]; simp only [Nat.min_def]; split <;> omega) (cells_from hcg2 htk) k1 (by rw [HLD.out, k2]; omega) (hcells_one _))
  have HT : Hid (Below w.heap.size w (((w.drew.alloc (.cells ROW 99)).setCells w.heap.size (p * 2) [.int .i64 x, .string r]).drew.setCells w.heap.size ((p + 1) * 2) (hcells (l.drop p)))) := by
    have h0 : Below w.heap.size w (w.drew.alloc (.cells ROW 99)) := ((Below.refl _ _).drew).alloc (Nat.le_refl _) _
    have h1 := (setCells_turns w.heap.size (w.drew.alloc (.cells ROW 99)) (p * 2) [.int .i64 x, .string r]).below h0 h0.size (fun k hk => by omega)
    exact (setCells_turns w.heap.size _ ((p + 1) * 2) (hcells (l.drop p))).below (Below.drew h1) h1.size (fun k hk => by omega)
  have HLE : Hid ((l.take p ++ (x, r) :: l.drop p).length = n + 1) := by rw [Hid, hn]; simp; omega
  have HEND : Hid (HOwn (((w.drew.alloc (.cells ROW 99)).setCells w.heap.size (p * 2) [.int .i64 x, .string r]).drew.setCells w.heap.size ((p + 1) * 2) (hcells (l.drop p))) base (.slice (some ⟨w.heap.size, 0, none⟩) (n + 1) G) (l.take p ++ (x, r) :: l.drop p)) :=
    ⟨hcells_len _, .inr ⟨w.heap.size, G, cur', by rw [HLE.out], hB, k3, by rw [HLE.out]; omega, hGm, k4, by rw [HLE.out, hn]; exact k5⟩⟩
  rw [← hn] at hp hl hroom hnc ⊢
  clear ho hg hcg hcs htk hcm hbg hold hROW hRs hRt hN k1 k2 k3 k4 k5 hcg2 hpre hn
  subst hcn
  have j0 : ¬ (1 : Int) = 0 := by omega
  have j1 : (p : Int) ≤ (cap : Int) := by omega
  have j2 : ¬ (p : Int) = (cap : Int) := by omega
  have j3 : (cap : Int) < (cap : Int) + 1 := by omega
  have j5 : (p : Int) + 1 ≤ (cap : Int) + 1 := by omega
  have j6 : (0 : Int) ≤ (p : Int) := by omega
  have j11 : p ≤ cap := by omega
  have j12 : p + 1 ≤ cap + 1 := by omega
  have j13 : p ≤ cap + 1 := by omega
  have j14 : ¬ G = p := by omega
  have j15 : ¬ G = p + 1 := by omega
  have j16 : ¬ cap = p := by omega
  have j17 : (cap : Int) + 1 ≤ (G : Int) := by omega
  have hw1 : IntKind.i64.wrap ((p : Int) + 1) = (p : Int) + 1 := by rw [IntKind.wrap_i64]; omega
  have hw2 : ((p : Int) + 1).toNat = p + 1 := by omega
  have k1 : ¬ (cap : Int) + 1 < (p : Int) := by omega
  have k2 : ¬ (cap : Int) < (p : Int) := by omega
  have k3 : (0 : Int) ≤ (p : Int) + 1 := by omega
  have k4 : ¬ G ≤ p + 1 := by omega
  have k5 : ¬ G ≤ p := by omega
  have k6 : ¬ cap ≤ p := by omega
  generalize hHD : hcells (l.drop p) = HD at *
  unfold maxLen at hGm
  go_enter Tryz.func54, Tryz.ntmps54
  go_wp2_with (first
    | (at_builtin; refine Lib.wpList_append_run _ rfl _ _ _ _ rfl _ _ rfl rfl _ _ (hrz _) ?_)
    | fail)
  rw [show (w.alloc (.cells ROW 99)).drew = w.drew.alloc (.cells ROW 99) from rfl, HC1.out]
  simp only [Result.andThen]
  rw [Oper.upon_value]
  generalize hW : (w.drew.alloc (.cells ROW 99)).setCells w.heap.size (p * 2) [.int .i64 x, .string r] = W at *
  go_wp2_with fail
  have hS : (fun _ : World => True) W.drew := trivial
  refine wp_region_held_drew (S := fun _ => True) (by kernel_rfl) hS (fun _ => ?_)
  refine wpAnyH_take (i := 0) (v := .slice (some ⟨w.heap.size, 0, none⟩) (cap + 1) G) rfl (by kernel_rfl) (by kernel_rfl) (by kernel_rfl) (fun _ _ _ h => h) (Or.inl ⟨by kernel_rfl, ?_⟩) hS ?_
  · (intro w' hSw; go_simp)
  try simp only [Act.put]
  refine wpAnyH_take (i := 1) (v := .int .i64 p) rfl (by kernel_rfl) (by kernel_rfl) (by kernel_rfl) (fun _ _ _ h => h) (Or.inl ⟨by kernel_rfl, ?_⟩) hS ?_
  · (intro w' hSw; go_simp)
  try simp only [Act.put]
  refine wpAnyH_take (i := 2) (v := .int .i64 1) rfl (by kernel_rfl) (by kernel_rfl) (by kernel_rfl) (fun _ _ _ h => h) (Or.inl ⟨by kernel_rfl, ?_⟩) hS ?_
  · (intro w' hSw; go_simp)
  try simp only [Act.put]
  refine wpAnyH_take (i := 3) (v := .int .i64 ((p : Int) + 1)) rfl (by kernel_rfl) (by kernel_rfl) (by kernel_rfl) (fun _ _ _ h => h) (Or.inl ⟨by kernel_rfl, ?_⟩) hS ?_
  · (intro w' hSw; go_simp)
  try simp only [Act.put]
  refine wpAnyH_take (i := 4) (v := .slice (some ⟨w.heap.size, (p + 1) * 2, none⟩) (cap + 1 - (p + 1)) (G - (p + 1))) rfl (by kernel_rfl) (by kernel_rfl) (by kernel_rfl) (fun _ _ _ h => h) (Or.inl ⟨by kernel_rfl, ?_⟩) hS ?_
  · (intro w' hSw; go_simp)
  try simp only [Act.put]
  refine wpAnyH_take (i := 5) (v := .slice (some ⟨g', 0, none⟩) cap cap) rfl (by kernel_rfl) (by kernel_rfl) (by kernel_rfl) (fun _ _ _ h => h) (Or.inl ⟨by kernel_rfl, ?_⟩) hS ?_
  · (intro w' hSw; go_simp)
  try simp only [Act.put]
  refine wpAnyH_take (i := 6) (v := .int .i64 p) rfl (by kernel_rfl) (by kernel_rfl) (by kernel_rfl) (fun _ _ _ h => h) (Or.inl ⟨by kernel_rfl, ?_⟩) hS ?_
  · (intro w' hSw; go_simp)
  try simp only [Act.put]
  refine wpAnyH_take (i := 7) (v := .slice (some ⟨g', p * 2, none⟩) (cap - p) (cap - p)) rfl (by kernel_rfl) (by kernel_rfl) (by kernel_rfl) (fun _ _ _ h => h) (Or.inl ⟨by kernel_rfl, ?_⟩) hS ?_
  · (intro w' hSw; go_simp)
  try simp only [Act.put]
  refine wpAnyH_ready (rs := [8]) (by kernel_rfl) (by simp) ?_
  refine AllReadyH.cons rfl (fun K hK => ?_) AllReadyH.nil
  dsimp only [getElem?_def, Array.getElem?_toList, List.getElem_toArray, List.getElem_cons_succ, List.getElem_cons_zero]
  simp only [List.setIfInBounds_toArray, List.set_cons_succ, List.set_cons_zero]
  rw [if_pos (by simp [Region.wanted])]
  refine wp_copy_runH _ (.tmp 50) (.tmp 53) rfl (.slice (some ⟨w.heap.size, (p + 1) * 2, none⟩) (cap + 1 - (p + 1)) (G - (p + 1))) (.slice (some ⟨g', p * 2, none⟩) (cap - p) (cap - p)) ?_ ?_ (HC2.out _ _ _) ?_
  · rfl
  · rfl
  refine hK.out _ _ trivial (fun _ => ?_)
  clear hK K hS
  try simp only [Act.put]
  refine wpAnyH_done (by kernel_rfl) ?_ _
  go_wp2_with fail
  go_ret
  exact ⟨G, rfl, HEND.out, HT.out⟩

/-- A head is put where it belongs. -/
theorem insert_any (l : List (Int × ByteArray)) (x : Int) (r : ByteArray) (hl : l.length ≤ 1000) : InsOk l x r := by
  intro w base g p v ho hB hg hne hp h1 h2
  rcases Nat.lt_or_ge p l.length with hlt | hge
  · obtain ⟨a, cap, rfl⟩ := hown_shape ho
    have hsh : ∃ g', a = some ⟨g', 0, none⟩ := by
      rcases id ho.2 with ⟨_, h0⟩ | ⟨g', cap', cur, hv, _⟩
      · omega
      · simp only [Value.slice.injEq] at hv; exact ⟨g', hv.1⟩
    obtain ⟨g', rfl⟩ := hsh
    by_cases hroom : l.length + 1 ≤ cap
    · refine (insert_room base g g' cap p l x r w ho hg (fun e => hne (by rw [e]; rfl)) hlt hl hroom).mono ?_
      rintro e w' ⟨rfl, q1, q2⟩
      exact ⟨_, rfl, q1, ⟨q2.os, q2.tape, q2.output, q2.size, fun k hk hn => q2.block k hk (fun e => hn (by rw [e]; rfl))⟩, .inl rfl⟩
    · refine (insert_grow base g g' cap p l x r w ho hB hg hlt hl hroom).mono ?_
      rintro e w' ⟨G, rfl, q1, q2⟩
      exact ⟨_, rfl, q1, ⟨q2.os, q2.tape, q2.output, q2.size, fun k hk _ => q2.block k hk⟩, .inr ⟨w.heap.size, rfl, Nat.le_refl _⟩⟩
  · exact insert_end l x r hl (fun q hq => by
      obtain ⟨i, hi, rfl⟩ := List.getElem_of_mem hq
      exact h1 i hi (by omega)) w base g p v ho hB hg hne hp h1 h2
end Go.Proofs.YtbmohenjphmlgaaGreat

/- Texts that can be read are appended to a row of texts of a call's own: for a walk. -/
namespace Go.Proofs.YtbmohenjphmlgaaGreat
open Go.RowKit
set_option maxRecDepth 100000

theorem srd_cells {w : World} {l : List ByteArray} {B : Nat} {p : Addr} (h : SRd B w (some p) l) : ∀ j u, (tcells l)[j]? = some u → w.cell? (p.add j) = some u := by
  intro j u hu
  have hj : j < l.length := by rw [← tcells_len]; exact (List.getElem?_eq_some_iff.1 hu).1
  obtain ⟨b, off, e, _, c0⟩ := h j hj
  cases e
  have hadd : (⟨b, off, none⟩ : Addr).add j = ⟨b, off + j, none⟩ := by unfold Addr.add; split <;> simp_all
  rw [hadd]
  rw [tcells_at l j hj] at hu
  cases hu
  exact c0

theorem wpList_append_texts {ops : Array Oper} {rest : List Oper} {o : Oper} {act : Act} {Q : Exit → Act → World → Prop} (w : World) (hgd : o.guard = none) (s x : Operand)
    (hop : o.op = .call { callee := .builtin .append, args := #[s, x], argTypes := #[28, 28] })
    (base B : Nat) (v1 : Value) (a2 : Option Addr) (c2 : Nat) (l1 l2 : List ByteArray) (hs : act.eval s = v1) (hx : act.eval x = .slice a2 l2.length c2) (h1 : TOwn w base v1 l1) (h2 : SRd B w a2 l2) (hn : a2 = none → l2.length = 0 ∧ c2 = 0) (hlen : l1.length + l2.length ≤ 1000000) (hbase : base ≤ w.heap.size)
    (h : ∀ v' w', TOwn w' base v' (l1 ++ l2) → w.grownBy w' v1.ownBlock → Newer w v1 v' → wpList Tryz.prog ops Q rest (act.put o.dst v') w') :
    wpList Tryz.prog ops Q (o :: rest) act w := by
  obtain ⟨i0, hi, hz0, hz1, hz2⟩ := info_parts infoText
  cases a2 with
  | none =>
    obtain ⟨e1, e2⟩ := hn rfl
    obtain rfl : l2 = [] := List.eq_nil_of_length_eq_zero e1
    subst e2
    refine wpList_plain hgd fun K hK => ?_
    have hr := run_append_owned_none (P := Tryz.prog) w base 28 o.type 9 i0 1 Tryz.underlying28 hi v1 _ _ h1
    unfold Oper.wp execOp
    simp only [hop, resolve, invoke, builtin, Sem.run_bind, Sem.run_pure, Result.andThen_ok, List.map_toArray, List.map_cons, List.map_nil, hs, hx, List.length_nil, hr]
    exact hK _ _ (h v1 w (by rw [List.append_nil]; exact h1) (World.grownBy.refl _ _) (.inl rfl))
  | some p =>
    refine wpList_append_mine w hgd s x 28 hop base 9 i0 _ 1 16 Tryz.underlying28 hi hz0 hz1 hz2 rfl (by decide) v1 l1.length (tcells l1) hs h1 p l2.length c2 (tcells l2) hx (by rw [tcells_len, Nat.mul_one]) (srd_cells h2) (tcells_one l2) (by unfold maxLen; omega) (by omega) hbase ?_
    intro v' w' ho hg hn
    refine h v' w' ?_ hg hn
    unfold TOwn
    rw [List.length_append, show tcells (l1 ++ l2) = tcells l1 ++ tcells l2 by simp [tcells]]
    exact ho

theorem town_none {w : World} {b : Nat} {n cap : Nat} {a : Option Addr} {l : List ByteArray} (h : TOwn w b (.slice a n cap) l) : a = none → l.length = 0 ∧ cap = 0 := by
  intro ha
  rcases h.2 with ⟨hv, h0⟩ | ⟨g, cap', cur, hv, _⟩
  · simp only [Value.slice.injEq] at hv; exact ⟨h0, hv.2.2⟩
  · simp only [Value.slice.injEq] at hv; rw [ha] at hv; cases hv.1

end Go.Proofs.YtbmohenjphmlgaaGreat

/- The walk of Sum (of the document's own answer). -/
namespace Go.Proofs.YtbmohenjphmlgaaGreat
open Go.RowKit
set_option maxRecDepth 100000

set_option maxHeartbeats 1600000 in
theorem sumR_any (s : ByteArray) (w : World) (hs : s.size ≤ 1000000000) : Calls Tryz.prog 71 #[.string s] w fun e w' => e = .returned (.string ⟨(Tr.sum s.data.toList).toArray⟩) ∧ Below w.heap.size w w' := by
  go_enter Tryz.func71, Tryz.ntmps71
  go_wp2_with fail
  go_loopw [3, 4] (fun h i wr => ∃ k : Nat, h = .int .u64 (Tr.fnv (s.data.toList.take k)) ∧ i = .int .i64 k ∧ k ≤ s.size ∧ wr = w) (fun _ i _ => s.size - (intOf i).toNat)
  case atStart => exact ⟨0, by rw [List.take_zero, Tr.fnv_nil]; simp, rfl, Nat.zero_le _, rfl⟩
  case round =>
    obtain ⟨k, rfl, rfl, hk, rfl⟩ := hrel
    by_cases hlt : k < s.size
    · have i1 : (0 : Int) ≤ (k : Int) := by omega
      have i2 : (k : Int) < (s.size : Int) := by omega
      have HF := hid (step_val (Tr.fnv (s.data.toList.take k)) s[k] (Tr.fnv_lt _))
      have HS := hid (fnv_snoc s k hlt)
      go_wp2_with fail
      exact ⟨⟨k + 1, by rw [HF.out, HS.out], by go_num, by omega, trivial⟩, by simp [intOf]; omega⟩
    · have i2 : ¬ (k : Int) < (s.size : Int) := by omega
      have HK : Hid (Tr.fnv (s.data.toList.take k) = Tr.fnv s.data.toList) := by rw [Hid, List.take_of_length_le (by rw [ba_len]; omega)]
      rw [HK.out]
      have HLT := hid (Tr.fnv_lt s.data.toList)
      have HSE := hid (Tr.sum_eq s.data.toList)
      generalize Tr.fnv s.data.toList = n at *
      clear HK hlt hk
      go_wp2_with fail
      go_loopw [5, 6] (fun b i wx => ∃ m : Nat, i = .int .i64 (7 - (m : Int)) ∧ m ≤ 8 ∧ Hid (Bown wx wr.heap.size b ((List.range m).map (Tr.sumAt n)) ∧ Below wr.heap.size wr wx)) (fun _ i _ => (1 + intOf i).toNat)
      case atStart => exact ⟨0, rfl, by omega, bown_nil _ _, Below.refl _ _⟩
      case round =>
        obtain ⟨m, rfl, hm, HH⟩ := hrel
        obtain ⟨ab, cb, hv⟩ := bown_shape HH.out.1
        rw [show ((List.range m).map (Tr.sumAt n)).length = m by simp] at hv
        subst hv
        by_cases hlt2 : m < 8
        · have j1 : (0 : Int) ≤ 7 - (m : Int) := by omega
          have HZ : Hid (#[Value.int .u8 (bits .and .u64 ((n : Int) / 2 ^ (8 * (7 - m))) 255 % 256)].toList = Lib.byteCells [Tr.sumAt n m]) := by
            rw [Hid]
            simp only [Lib.byteCells, List.map_cons, List.map_nil]
            rw [sum_byte n m HLT.out]
          have HM : Hid ((List.range m).map (Tr.sumAt n) ++ [Tr.sumAt n m] = (List.range (m + 1)).map (Tr.sumAt n)) := by rw [Hid, List.range_succ, List.map_append]; rfl
          have HLN : Hid (((List.range m).map (Tr.sumAt n)).length + 1 ≤ 1000000000) := by rw [Hid]; simp; omega
          go_wp2_with (at_builtin; refine wpList_push_bytes rfl (.tmp 24) (.tmp 31) rfl [Tr.sumAt n m] wr.heap.size rfl rfl rfl HH.out.1 HH.out.2 (Nat.le_refl _) HZ.out HLN.out ?_; intro v' w' ho' hb'; have HO' := hid ho'; have HB' := hid hb'; clear ho' hb')
          exact ⟨⟨m + 1, by go_num, by omega, by rw [← HM.out]; exact HO'.out, HB'.out⟩, by simp [intOf]; omega⟩
        · have j1 : ¬ (0 : Int) ≤ 7 - (m : Int) := by omega
          obtain rfl : m = 8 := by omega
          have hcv := run_bytes_string (brd_of_bown HH.out.1)
          go_wp2_with fail
          go_ret
          exact ⟨by rw [HSE.out]; rfl, HH.out.2⟩
end Go.Proofs.YtbmohenjphmlgaaGreat

/- Plain mathematics of two stores that have the same elements in two orders; what is reached, by a search in breadth as by one in depth. Nothing of the program is in here. -/
namespace Go.Proofs.YtbmohenjphmlgaaGreat
set_option maxRecDepth 100000

namespace Tr

theorem Lone.perm {S K : List (List UInt8)} (h : Lone S) (p : S.Perm K) : Lone K := (p.pairwise_iff (fun {_ _} h => h.symm)).1 h

/-- Two stores with the same elements find the same. -/
theorem find_perm {S K : List (List UInt8)} (h : Lone S) (p : S.Perm K) (s : List UInt8) : find K s = find S s := by
  cases hf : find S s with
  | none => rw [find_none] at hf ⊢; exact fun e he => hf e (p.mem_iff.2 he)
  | some e =>
    obtain ⟨h1, h2⟩ := find_some hf
    have := (h.perm p).find (p.mem_iff.1 h1)
    rw [h2] at this
    exact this

theorem add_perm {S K : List (List UInt8)} (h : Lone S) (p : S.Perm K) (e : List UInt8) : (add S e).Perm (add K e) := by
  unfold add
  rw [find_perm h p]
  split
  · exact p
  · exact p.append_right _

theorem addAll_perm (q : List (List UInt8)) : ∀ {S K : List (List UInt8)}, Lone S → S.Perm K → (addAll S q).Perm (addAll K q) := by
  induction q with
  | nil => exact fun _ p => p
  | cons e q ih => exact fun h p => ih (add_lone h e) (add_perm h p e)

theorem tellW_same {S K : List (List UInt8)} (h : ∀ s, find K s = find S s) : ∀ (f : Nat) (w : Way), tellW K f w = tellW S f w := by
  intro f
  induction f with
  | zero => intro w; rfl
  | succ f ih =>
    intro w
    rw [tellW, tellW, h]
    split
    · rfl
    · cases find S w.need with
      | none => rfl
      | some e =>
        show (match vstep 1 w e with | none => none | some w' => tellW K f w') = match vstep 1 w e with | none => none | some w' => tellW S f w'
        cases vstep 1 w e with
        | none => rfl
        | some w' => exact ih w'

theorem thru_same {S K : List (List UInt8)} (h : ∀ s, find K s = find S s) (f : Nat) (o : Option Way) : thru K f o = thru S f o := by
  cases o with
  | none => rfl
  | some w => exact tellW_same h f w

theorem tell_perm {S K : List (List UInt8)} (h : Lone S) (p : S.Perm K) (root key : List UInt8) : tell K root key = tell S root key := by
  unfold tell tellR
  rw [find_perm h p]
  split
  · rfl
  · cases find S root with
    | none => rfl
    | some e => show tellEnd (thru K 20 _) = tellEnd (thru S 20 _); rw [thru_same (find_perm h p)]

/-- What is reached from some sums. -/
inductive Rch (S : List (List UInt8)) (roots : List (List UInt8)) : List UInt8 → Prop
  | root {r : List UInt8} : r ∈ roots → Rch S roots r
  | next {s e c : List UInt8} : Rch S roots s → find S s = some e → c ∈ sumsOf e → Rch S roots c

/-- A list of sums that has the roots, and with each of its own what that one's element leads to, and nothing that is not reached: it has what is reached. -/
structure AllOf (K roots L : List (List UInt8)) : Prop where
  base : ∀ r ∈ roots, r ∈ L
  shut : ∀ s ∈ L, ∀ e, find K s = some e → ∀ c ∈ sumsOf e, c ∈ L
  least : ∀ s ∈ L, Rch K roots s

/-- A way on by a sum is shorter. -/
theorem goes_less {t : Itm} (hpu : Itm.pure t = true) (hs : sound t = true) {k : List UInt8} (hk : ∀ c ∈ k, c.toNat < 16) {br : Bool} {w : Way} (hg : goes t k br = some w) (hn : w.need ≠ []) : w.digits.length < k.length := by
  cases hb : isBranch t with
  | true =>
    cases k with
    | nil => rw [goes_end br hb] at hg; cases hg; exact absurd rfl hn
    | cons c r =>
      have hc := hk c (List.mem_cons_self ..)
      rw [goes_down c r br hb (by omega)] at hg
      unfold refers refersOf at hg
      split at hg
      · cases hg; simp
      · rename_i hsm
        have hlen : c.toNat < t.items.length := by rw [branch_len hb]; omega
        exfalso
        have hkid := hs
        rw [sound_branch (branch_full hb) hb] at hkid
        simp only [Bool.and_eq_true, List.all_eq_true] at hkid
        have h1 := hkid.1 c.toNat (List.mem_range.2 (by omega))
        rw [slotOk_eq, if_neg (by omega)] at h1
        simp only [Bool.or_eq_true, Bool.and_eq_true, decide_eq_true_eq] at h1
        rcases h1 with h1 | h1 | h1
        · rw [goes_empty r h1] at hg; cases hg; exact hn rfl
        · exact hsm h1
        · exact hn (short_ends (pure_kid hpu hlen) h1.1.2 h1.2 hg)
  | false =>
    cases br with
    | true => rw [goes_stop k hb] at hg; cases hg
    | false =>
      cases he : isEmpty t with
      | true => rw [goes_empty k he] at hg; cases hg; exact absurd rfl hn
      | false =>
        obtain ⟨h2, hp⟩ := sound_two hs he hb
        cases hu : unpath (kid t 0) with
        | none => rw [hu] at hp; simp [pairOk] at hp
        | some u =>
          obtain ⟨p, leaf⟩ := u
          cases leaf with
          | true =>
            rw [goes_leaf k p hb he hu] at hg
            split at hg <;> (cases hg; exact absurd rfl hn)
          | false =>
            by_cases hm : k.length < p.length ∨ k.take p.length ≠ p
            · rw [goes_miss k p hb he hu hm] at hg; cases hg; exact absurd rfl hn
            · rw [goes_hit k p hb he h2 hu (fun h => hm (.inl h)) (Decidable.not_not.1 fun h => hm (.inr h))] at hg
              rw [hu] at hp
              have hp' : 0 < p.length ∧ isSum (kid t 1) = true := by unfold pairOk at hp; simp at hp; exact ⟨hp.1, hp.2⟩
              unfold refers refersOf at hg
              rw [if_pos hp'.2] at hg
              cases hg
              show (k.drop p.length).length < k.length
              rw [List.length_drop]
              have := fun h => hm (.inl h)
              omega

end Tr
end Go.Proofs.YtbmohenjphmlgaaGreat

/- Plain mathematics of a search in breadth, and of the sums in a node, one place after the other. Nothing of the program is in here. -/
namespace Go.Proofs.YtbmohenjphmlgaaGreat
set_option maxRecDepth 100000

namespace Tr

/-- Some sums are put behind others, unless they are there. -/
def grow (L cs : List (List UInt8)) : List (List UInt8) := cs.foldl (fun L c => if c ∈ L then L else L ++ [c]) L

/-- All sums in the elements of a store. -/
def allSums (K : List (List UInt8)) : List (List UInt8) := K.flatMap sumsOf

/-- A search in breadth, behind i of its rounds. -/
structure Bfs (K roots : List (List UInt8)) (i : Nat) (L : List (List UInt8)) : Prop where
  le : i ≤ L.length
  more : ∃ X, L = roots ++ X ∧ X.Nodup ∧ (∀ c ∈ X, c ∈ allSums K) ∧ ∀ c ∈ X, c ∉ roots
  least : ∀ s ∈ L, Rch K roots s
  shut : ∀ j (h : j < L.length), j < i → ∀ e, find K L[j] = some e → ∀ c ∈ sumsOf e, c ∈ L

/-- The sums at a branch's first n places. -/
def sumsTo (t : Itm) (n : Nat) : List (List UInt8) := (List.range n).filterMap fun i => if isSum (kid t i) then some (kid t i).bytes else none

/-- What a place of a branch holds, as far as sums go: a sum, nothing, or a leaf. -/
inductive Place (y : Itm) : Prop
  | sum : isSum y = true → Place y
  | none : isSum y = false → y.items = [] → Place y
  | leaf : isSum y = false → y.items.length = 2 → (∃ p, unpath (kid y 0) = some (p, true)) → Place y

/-- The sums of a sound node, by what it is. -/
inductive Shape (t : Itm) : Prop
  | none : t.items = [] → sums t = [] → Shape t
  | leaf : t.items.length = 2 → (∃ p, unpath (kid t 0) = some (p, true)) → sums t = [] → Shape t
  | ext : t.items.length = 2 → (∃ p, unpath (kid t 0) = some (p, false)) → isSum (kid t 1) = true → sums t = [(kid t 1).bytes] → Shape t
  | branch : t.items.length = 17 → sums t = sumsTo t 16 → (∀ i, i < 16 → Place (kid t i)) → Shape t

end Tr
end Go.Proofs.YtbmohenjphmlgaaGreat

/- The document's own keeper in memory: the walks of head, find, has (of the document's own answer). -/
namespace Go.Proofs.YtbmohenjphmlgaaGreat
open Go.RowKit
set_option maxRecDepth 100000

/-- The document's own keeper: its heads l and its elements K; all that it is lies in the blocks R. -/
structure RAt0 (R : Nat → Prop) (w : World) (r0 : Nat) (ah : Option Addr) (ch : Nat) (ak : Option Addr) (ck : Nat) (l : List (Int × ByteArray)) (K : List ByteArray) : Prop where
  cell : w.heap[r0]? = some (.cells #[.slice ah l.length ch, .slice ak K.length ck] 53 (0, 0))
  heads : HOwn w 0 (.slice ah l.length ch) l
  kept : TOwn w 0 (.slice ak K.length ck) K
  own : ∀ k, R k ↔ k = r0 ∨ (Value.slice ah l.length ch).ownBlock = some k ∨ (Value.slice ak K.length ck).ownBlock = some k
  nh : (Value.slice ah l.length ch).ownBlock ≠ some r0
  nk : (Value.slice ak K.length ck).ownBlock ≠ some r0

def RAt (R : Nat → Prop) (w : World) (r0 : Nat) (l : List (Int × ByteArray)) (K : List ByteArray) : Prop := ∃ ah ch ak ck, RAt0 R w r0 ah ch ak ck l K

theorem rat_lt {R : Nat → Prop} {w : World} {r0 : Nat} {l : List (Int × ByteArray)} {K : List ByteArray} (h : RAt R w r0 l K) : ∀ k, R k → k < w.heap.size := by
  obtain ⟨ah, ch, ak, ck, h⟩ := h
  intro k hk
  rcases (h.own k).1 hk with rfl | hg | hg
  · exact (Array.getElem?_eq_some_iff.1 h.cell).1
  · exact (hown_lt h.heads k hg).2
  · exact (town_lt h.kept k hg).2

theorem rat_frame {R : Nat → Prop} {w w' : World} {r0 : Nat} {l : List (Int × ByteArray)} {K : List ByteArray} (h : RAt R w r0 l K) (hb : ∀ k, R k → w'.heap[k]? = w.heap[k]?) : RAt R w' r0 l K := by
  obtain ⟨ah, ch, ak, ck, h⟩ := h
  exact ⟨ah, ch, ak, ck, (hb _ ((h.own _).2 (.inl rfl))).trans h.cell, hown_frame h.heads (fun g hg => hb g ((h.own _).2 (.inr (.inl hg)))), town_frame h.kept (fun g hg => hb g ((h.own _).2 (.inr (.inr hg)))), h.own, h.nh, h.nk⟩

theorem rat_later {R : Nat → Prop} {w w' : World} {r0 : Nat} {l : List (Int × ByteArray)} {K : List ByteArray} (h : RAt R w r0 l K) (hb : Below w.heap.size w w') : RAt R w' r0 l K := rat_frame h (fun k hk => hb.block k (rat_lt h k hk))

/-- Where a height stands. -/
def HeadPost (l : List (Int × ByteArray)) (x : Int) (w : World) (e : Ending) (w' : World) : Prop :=
  ∃ n : Int, e = .returned (.int .i64 n) ∧ ((∃ (p : Nat) (h : p < l.length), n = p ∧ l[p].1 = x) ∨ (n = -1 ∧ ∀ q ∈ l, q.1 ≠ x)) ∧ Below w.heap.size w w'

set_option maxHeartbeats 1600000 in
theorem refHead_any (r0 : Nat) (a : Option Addr) (ch : Nat) (y : Value) (l : List (Int × ByteArray)) (x : Int) (w : World) (hc : w.heap[r0]? = some (.cells #[.slice a l.length ch, y] 53 (0, 0))) (hr : HRd w.heap.size w a l) (hl : l.length ≤ 1000) :
    Calls Tryz.prog 68 #[.pointer (some ⟨r0, 0, none⟩), .int .i64 x] w (HeadPost l x w) := by
  have HR := hid hr
  have c0 : w.cell? ⟨r0, 0, none⟩ = some (.slice a l.length ch) := by rw [cell_of_row _ _ 0 _ _ _ hc]; rfl
  have hlt0 := (Array.getElem?_eq_some_iff.1 hc).1
  clear hr hc
  go_enter Tryz.func68, Tryz.ntmps68
  go_wp2_with fail
  go_loopw [5] (fun i wr => ∃ k : Nat, i = .int .i64 k ∧ k ≤ l.length ∧ (∀ j (h : j < l.length), j < k → l[j].1 ≠ x) ∧ Hid (Below w.heap.size w wr)) (fun i _ => l.length - (intOf i).toNat)
  case atStart => exact ⟨0, rfl, Nat.zero_le _, fun _ _ h => by omega, Below.refl _ _⟩
  case round =>
    obtain ⟨k, rfl, hk, hne, HB⟩ := hrel
    have x0 := (HB.out.cell (p := ⟨r0, 0, none⟩) hlt0).trans c0
    by_cases hlt : k < l.length
    · obtain ⟨b, off, rfl, hb, d0, d1⟩ := HR.out k hlt
      have x1 := (HB.out.cell (p := ⟨b, off + k * 2, none⟩) hb).trans d0
      have i2 : (k : Int) < (l.length : Int) := by omega
      by_cases he : l[k].1 = x
      · rw [he] at x1
        go_wp2_with fail
        go_ret
        exact ⟨_, rfl, .inl ⟨k, hlt, rfl, he⟩, HB.out⟩
      · go_wp2_with fail
        refine ⟨⟨k + 1, by go_num, by omega, fun j hj hjk => ?_, HB.out⟩, by simp [intOf]; omega⟩
        by_cases hjk' : j = k
        · subst hjk'; exact he
        · exact hne j hj (by omega)
    · have i2 : ¬ (k : Int) < (l.length : Int) := by omega
      go_wp2_with fail
      go_ret
      refine ⟨_, rfl, .inr ⟨rfl, fun q hq => ?_⟩, HB.out⟩
      obtain ⟨j, hj, rfl⟩ := List.getElem_of_mem hq
      exact hne j hj (by omega)

/-- The element that is kept with a sum. -/
def FindPost (K : List ByteArray) (s : ByteArray) (w : World) (e : Ending) (w' : World) : Prop :=
  ∃ t b, e = .returned (.tuple #[.string t, .bool b]) ∧ ((b = true ∧ t ∈ K ∧ Tr.find (bl K) s.data.toList = some t.data.toList) ∨ (b = false ∧ t = ⟨#[]⟩ ∧ Tr.find (bl K) s.data.toList = none)) ∧ Below w.heap.size w w'

theorem bl_take_succ (K : List ByteArray) (k : Nat) (h : k < K.length) : bl (K.take (k + 1)) = bl (K.take k) ++ [K[k].data.toList] := by
  rw [List.take_succ_eq_append_getElem h, bl_append]; rfl

theorem bl_cut (K : List ByteArray) (k : Nat) (h : k < K.length) : bl K = bl (K.take k) ++ ([K[k].data.toList] ++ bl (K.drop (k + 1))) := by
  have := List.take_append_drop k K
  rw [List.drop_eq_getElem_cons h] at this
  conv => lhs; rw [← this]
  rw [bl_append]; rfl

set_option maxHeartbeats 1600000 in
theorem refFind_any (r0 : Nat) (a : Option Addr) (ck : Nat) (y : Value) (K : List ByteArray) (s : ByteArray) (w : World) (hc : w.heap[r0]? = some (.cells #[y, .slice a K.length ck] 53 (0, 0))) (hr : SRd w.heap.size w a K) (hK : K.length ≤ 1000) (hs : ∀ e ∈ K, e.size ≤ 1000) :
    Calls Tryz.prog 70 #[.pointer (some ⟨r0, 0, none⟩), .string s] w (FindPost K s w) := by
  have HR := hid hr
  have HS := hid hs
  have c0 : w.cell? ⟨r0, 1, none⟩ = some (.slice a K.length ck) := by rw [cell_of_row _ _ 1 _ _ _ hc]; rfl
  have hlt0 := (Array.getElem?_eq_some_iff.1 hc).1
  clear hr hc hs
  go_enter Tryz.func70, Tryz.ntmps70
  go_wp2_with fail
  go_loopw [6] (fun i wr => ∃ k : Nat, i = .int .i64 k ∧ k ≤ K.length ∧ Hid (Tr.find (bl (K.take k)) s.data.toList = none ∧ Below w.heap.size w wr)) (fun i _ => K.length - (intOf i).toNat)
  case atStart => exact ⟨0, rfl, Nat.zero_le _, by rw [List.take_zero]; rfl, Below.refl _ _⟩
  case round =>
    obtain ⟨k, rfl, hk, HB⟩ := hrel
    have x0 := (HB.out.2.cell (p := ⟨r0, 1, none⟩) hlt0).trans c0
    by_cases hlt : k < K.length
    · obtain ⟨b, off, rfl, hb, d0⟩ := HR.out k hlt
      have x1 := (HB.out.2.cell (p := ⟨b, off + k, none⟩) hb).trans d0
      have i2 : (k : Int) < (K.length : Int) := by omega
      have HSU := hid (fun w => sumR_any K[k] w (by have := HS.out _ (List.getElem_mem hlt); omega))
      have HCU := hid (bl_cut K k hlt)
      have HTS := hid (bl_take_succ K k hlt)
      have HME := hid (List.getElem_mem hlt)
      generalize K[k] = t at *
      obtain ⟨E, hE⟩ : ∃ E : ByteArray, E = ⟨(Tr.sum t.data.toList).toArray⟩ := ⟨_, rfl⟩
      rw [← hE] at HSU
      have HED : Hid (E.data.toList = Tr.sum t.data.toList) := by rw [hE]; rfl
      clear d0 hE
      go_wp2_with fail
      refine (HSU.out _).mono ?_
      rintro e w1 ⟨rfl, b1⟩
      have HB1 : Hid (Below w.heap.size w w1) := HB.out.2.trans (b1.mono HB.out.2.size)
      have z0 := (HB1.out.cell (p := ⟨r0, 1, none⟩) hlt0).trans c0
      have z1 := (b1.cell (p := ⟨b, off + k, none⟩) (World.block_lt_of_cell? _ _ x1)).trans x1
      clear b1 x0 x1
      by_cases he : E = s
      · subst he
        go_wp2_with fail
        refine bodyPost_ret (v := .tuple #[.string t, .bool true]) (by simp [results, Tryz.results70, go_sem]) rfl ?_
        refine ⟨_, _, rfl, .inl ⟨rfl, HME.out, ?_⟩, HB1.out⟩
        rw [HCU.out, Tr.find_append, HB.out.1, Tr.find_append, Tr.find_one, if_pos HED.out.symm]
        rfl
      · have he' := bytes_ne he
        go_wp2_with fail
        refine ⟨⟨k + 1, by go_num, by omega, ?_, HB1.out⟩, by simp [intOf]; omega⟩
        rw [HTS.out, Tr.find_append, HB.out.1, Tr.find_one, if_neg (fun h => he (by
          have : E.data.toList = s.data.toList := HED.out.trans h
          cases E; cases s; simp at this; rw [this]))]
        rfl
    · have i2 : ¬ (k : Int) < (K.length : Int) := by omega
      go_wp2_with fail
      refine bodyPost_ret (v := .tuple #[.string ⟨#[]⟩, .bool false]) (by simp [results, Tryz.results70, go_sem]) rfl ?_
      refine ⟨_, _, rfl, .inr ⟨rfl, rfl, ?_⟩, HB.out.2⟩
      have := HB.out.1
      rwa [List.take_of_length_le (by omega)] at this

end Go.Proofs.YtbmohenjphmlgaaGreat
