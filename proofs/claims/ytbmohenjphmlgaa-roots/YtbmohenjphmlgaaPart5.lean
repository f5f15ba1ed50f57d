/- Part 5 of a proof: what the last text needs. -/
import Derived.Test.YtbmohenjphmlgaaPart4
import Derived.Test.YtbmohenjphmlgaaPart2
import Derived.Test.YtbmohenjphmlgaaPart3
/- Rows of pairs of strings, as they lie in memory; the walk of behind (of the program). -/
namespace Go.Proofs.Ytbmohenjphmlgaa
open Go.RowKit
set_option maxRecDepth 100000

theorem infoPair : (Try.prog.info? 133).map (fun i => (i.zero, i.size, i.bytes)) = some (some (.agg #[.string ⟨#[]⟩, .string ⟨#[]⟩]), 2, 32) := by kernel_rfl

/-- Pairs in a row, that can be read. -/
def PRd (B : Nat) (w : World) (a : Option Addr) (l : List (ByteArray × ByteArray)) : Prop :=
  ∀ i (h : i < l.length), ∃ b off, a = some ⟨b, off, none⟩ ∧ b < B ∧ w.cell? ⟨b, off + i * 2, none⟩ = some (.string l[i].1) ∧ w.cell? ⟨b, off + i * 2 + 1, none⟩ = some (.string l[i].2)

theorem PRd.later {B : Nat} {w w' : World} {a : Option Addr} {l : List (ByteArray × ByteArray)} (h : PRd B w a l) (hb : Below B w w') : PRd B w' a l := by
  intro i hi
  obtain ⟨b, off, ha, hlt, h1, h2⟩ := h i hi
  exact ⟨b, off, ha, hlt, by rw [hb.cell hlt]; exact h1, by rw [hb.cell hlt]; exact h2⟩

theorem PRd.wider {B B' : Nat} {w : World} {a : Option Addr} {l : List (ByteArray × ByteArray)} (h : PRd B w a l) (hB : B ≤ B') : PRd B' w a l := by
  intro i hi
  obtain ⟨b, off, ha, hlt, h1, h2⟩ := h i hi
  exact ⟨b, off, ha, by omega, h1, h2⟩

def pcells (l : List (ByteArray × ByteArray)) : List Value := l.flatMap fun p => [.string p.1, .string p.2]

theorem pcells_len (l : List (ByteArray × ByteArray)) : (pcells l).length = l.length * 2 := by
  induction l with
  | nil => rfl
  | cons p l ih => unfold pcells at *; rw [List.flatMap_cons, List.length_append, ih]; simp; omega

theorem pcells_snoc (l : List (ByteArray × ByteArray)) (p : ByteArray × ByteArray) : pcells (l ++ [p]) = pcells l ++ [.string p.1, .string p.2] := by simp [pcells]

theorem pcells_at (l : List (ByteArray × ByteArray)) (i : Nat) (h : i < l.length) : (pcells l)[i * 2]? = some (.string l[i].1) ∧ (pcells l)[i * 2 + 1]? = some (.string l[i].2) := by
  induction l generalizing i with
  | nil => simp at h
  | cons p l ih =>
    cases i with
    | zero => simp [pcells]
    | succ i =>
      have h' : i < l.length := by simpa using h
      have := ih i h'
      unfold pcells at *
      rw [List.flatMap_cons, show (i + 1) * 2 = i * 2 + 2 by omega, show i * 2 + 2 + 1 = i * 2 + 1 + 2 by omega]
      simpa using this

/-- Pairs in a row of the call's own. -/
def POwn (w : World) (base : Nat) (v : Value) (l : List (ByteArray × ByteArray)) : Prop := w.ownsRow base 133 2 v l.length (pcells l)

theorem pown_nil (w : World) (base : Nat) : POwn w base (.slice none 0 0) [] := World.ownsRow_nil _ _ _ _

theorem prd_of_pown {w : World} {base : Nat} {v : Value} {l : List (ByteArray × ByteArray)} (h : POwn w base v l) : ∃ a cap, v = .slice a l.length cap ∧ PRd w.heap.size w a l := by
  rcases h.2 with ⟨rfl, h0⟩ | ⟨g, cap, cur, rfl, hb, hg, _, _, _, _⟩
  · have : l = [] := List.eq_nil_of_length_eq_zero h0
    subst this
    exact ⟨none, 0, rfl, fun i hi => by simp at hi⟩
  · refine ⟨_, cap, rfl, fun i hi => ⟨g, 0, rfl, (Array.getElem?_eq_some_iff.1 hg).1, ?_, ?_⟩⟩
    · rw [Nat.zero_add, World.ownsRow.cellAt h _ (by omega)]
      exact (pcells_at l i hi).1
    · rw [Nat.zero_add, World.ownsRow.cellAt h _ (by omega)]
      exact (pcells_at l i hi).2

theorem pown_shape {w : World} {base : Nat} {v : Value} {l : List (ByteArray × ByteArray)} (h : POwn w base v l) : ∃ a cap, v = .slice a l.length cap := by
  obtain ⟨a, cap, hv, _⟩ := prd_of_pown h
  exact ⟨a, cap, hv⟩

theorem pown_frame {w w' : World} {b : Nat} {v : Value} {l : List (ByteArray × ByteArray)} (h : POwn w b v l) (hg : ∀ g, v.ownBlock = some g → w'.heap[g]? = w.heap[g]?) : POwn w' b v l := owns_frame h hg
theorem pown_lt {w : World} {b : Nat} {v : Value} {l : List (ByteArray × ByteArray)} (h : POwn w b v l) : ∀ g, v.ownBlock = some g → b ≤ g ∧ g < w.heap.size := World.ownsRow.lt h

theorem cells_two (w : World) (a b : Value) (e : TypeId) : ∀ j u, [a, b][j]? = some u → (w.alloc (.cells #[a, b] e)).cell? ((⟨w.heap.size, 0, none⟩ : Addr).add j) = some u := by
  intro j u hu
  have hadd : (⟨w.heap.size, 0, none⟩ : Addr).add j = ⟨w.heap.size, j, none⟩ := by unfold Addr.add; split <;> simp_all
  rw [hadd, cell_of_row _ _ j #[a, b] e (0, 0) (heap_alloc_new w _)]
  simpa using hu

/-- A pair that was just laid is appended to a row of the call's own: for a walk. -/
theorem wpList_push_pair {ops : Array Oper} {rest : List Oper} {o : Oper} {act : Act} {Q' : Exit → Act → World → Prop} (hgd : o.guard = none) (s x : Operand)
    (hop : o.op = .call { callee := .builtin .append, args := #[s, x], argTypes := #[111, 111] }) {W w0 wr : World} {B : Nat} {v1 : Value} {l1 : List (ByteArray × ByteArray)} (p : ByteArray × ByteArray) (L : Nat) (hL : wr.heap.size = L)
    (hs : act.eval s = v1) (hx : act.eval x = .slice (some ⟨L, 0, none⟩) 1 1) (ho : POwn w0 B v1 l1) (hw : Below w0.heap.size w0 wr) (hb : Below B W w0) (hB : B ≤ W.heap.size) (hlen : l1.length ≤ 1000000)
    (h : ∀ v' w', POwn w' B v' (l1 ++ [p]) → Below B W w' → wpList Try.prog ops Q' rest (act.put o.dst v') w') : wpList Try.prog ops Q' (o :: rest) act (wr.alloc (.cells #[.string p.1, .string p.2] 133)) := by
  subst hL
  obtain ⟨i0, hi, hz0, hz1, hz2⟩ := info_parts infoPair
  have hb1 : Below B W wr := hb.trans (hw.mono (Nat.le_trans hB hb.size))
  have hb2 : Below B W (wr.alloc (.cells #[.string p.1, .string p.2] 133)) := hb1.alloc (Nat.le_trans hB hb1.size) _
  have hBw : B ≤ (wr.alloc (.cells #[.string p.1, .string p.2] 133)).heap.size := Nat.le_trans hB hb2.size
  have ho2 : POwn (wr.alloc (.cells #[.string p.1, .string p.2] 133)) B v1 l1 := pown_frame ho (fun g hg => by
    rw [Below.heap_alloc _ _ _ (Nat.lt_of_lt_of_le (pown_lt ho g hg).2 hw.size)]
    exact hw.block g (pown_lt ho g hg).2)
  refine wpList_append_mine _ hgd s x 111 hop B 133 i0 _ 2 32 Try.underlying111 hi hz0 hz1 hz2 rfl (by decide) v1 l1.length (pcells l1) hs ho2 ⟨wr.heap.size, 0, none⟩ 1 1 [.string p.1, .string p.2] hx rfl (cells_two _ _ _ _) (by simp [Value.oneCell']) (by unfold maxLen; omega) (by omega) hBw ?_
  intro v' w' ho' hg _
  refine h v' w' ?_ (hb2.grown hg hBw (fun g hgg => (pown_lt ho g hgg).1))
  unfold POwn
  rw [List.length_append, pcells_snoc]
  exact ho'

/-- Those that begin with p, without it. -/
def behindB (p : ByteArray) (l : List (ByteArray × ByteArray)) : List (ByteArray × ByteArray) := l.filterMap fun x => if pre p x.1 then some (cutP p x.1, x.2) else none

theorem behindB_hit (p : ByteArray) (l : List (ByteArray × ByteArray)) (k : Nat) (h : k < l.length) (hp : pre p l[k].1 = true) : behindB p (l.take (k + 1)) = behindB p (l.take k) ++ [(cutP p l[k].1, l[k].2)] := by
  rw [List.take_succ_eq_append_getElem h]
  unfold behindB
  rw [List.filterMap_append]
  simp [hp]
theorem behindB_miss (p : ByteArray) (l : List (ByteArray × ByteArray)) (k : Nat) (h : k < l.length) (hp : pre p l[k].1 = false) : behindB p (l.take (k + 1)) = behindB p (l.take k) := by
  rw [List.take_succ_eq_append_getElem h]
  unfold behindB
  rw [List.filterMap_append]
  simp [hp]
theorem behindB_le (p : ByteArray) (l : List (ByteArray × ByteArray)) : (behindB p l).length ≤ l.length := List.length_filterMap_le _ _

set_option maxHeartbeats 1600000 in
theorem behindP_any (p : ByteArray) (a : Option Addr) (cap : Nat) (l : List (ByteArray × ByteArray)) (w : World) (hr : PRd w.heap.size w a l) (hl : l.length ≤ 1000000) : Calls Try.prog 100 #[.string p, .slice a l.length cap] w fun e w' => ∃ v, e = .returned v ∧ POwn w' w.heap.size v (behindB p l) ∧ Below w.heap.size w w' := by
  have HR := hid hr
  have HC := hid (fun s w => cutPrefix_any s p w)
  clear hr
  go_enter Try.func100, Try.ntmps100
  go_wp2_with fail
  go_loopw [5, 12] (fun v i wr => ∃ k : Nat, i = .int .i64 k ∧ k ≤ l.length ∧ Hid (POwn wr w.heap.size v (behindB p (l.take k)) ∧ Below w.heap.size w wr)) (fun _ i _ => l.length - (intOf i).toNat)
  case atStart => exact ⟨0, rfl, Nat.zero_le _, pown_nil _ _, Below.refl _ _⟩
  case round =>
    obtain ⟨k, rfl, hk, HH⟩ := hrel
    obtain ⟨av, cv, hv⟩ := pown_shape HH.out.1
    subst hv
    by_cases hlt : k < l.length
    · obtain ⟨b, off, rfl, hb, e0, e1⟩ := HR.out k hlt
      have f0 := (HH.out.2.cell (p := ⟨b, off + k * 2, none⟩) hb).trans e0
      have f1 := (HH.out.2.cell (p := ⟨b, off + k * 2 + 1, none⟩) hb).trans e1
      have i1 : (0 : Int) ≤ (k : Int) := by omega
      have i2 : (k : Int) < (l.length : Int) := by omega
      clear e0 e1
      cases hp : pre p l[k].1 with
      | true =>
        have HB := hid (behindB_hit p l k hlt hp)
        have HP := hid hp
        have HLE : Hid ((behindB p (l.take k)).length ≤ 1000000) := by
          have := behindB_le p (l.take k)
          rw [List.length_take] at this
          rw [Hid]; omega
        clear hp
        generalize behindB p (l.take k) = bk at *
        go_wp2_with fail
        refine (HC.out _ _).mono ?_
        rintro e w1 ⟨rfl, rfl⟩
        rw [HP.out]
        go_wp2_with (at_builtin; go_loud (refine wpList_push_pair rfl (.tmp 24) (.tmp 29) rfl (cutP p l[k].1, l[k].2) (wr.heap.size + 1) (alloc_size _ _) rfl rfl HH.out.1 ((Below.refl _ _).alloc (Nat.le_refl _) _) HH.out.2 (Nat.le_refl _) HLE.out ?_); intro v' w' ho' hb'; have HO' := hid ho'; have HB' := hid hb'; clear ho' hb')
        exact ⟨⟨k + 1, by go_num, by omega, by rw [HB.out]; exact HO'.out, HB'.out⟩, by simp [intOf]; omega⟩
      | false =>
        have HB := hid (behindB_miss p l k hlt hp)
        have HP := hid hp
        clear hp
        generalize behindB p (l.take k) = bk at *
        go_wp2_with fail
        refine (HC.out _ _).mono ?_
        rintro e w1 ⟨rfl, rfl⟩
        rw [HP.out]
        go_wp2_with fail
        exact ⟨⟨k + 1, by go_num, by omega, by rw [HB.out]; exact pown_frame HH.out.1 (fun g hg => Below.heap_alloc _ _ _ (pown_lt HH.out.1 g hg).2), HH.out.2.alloc HH.out.2.size _⟩, by simp [intOf]; omega⟩
    · have i2 : ¬ (k : Int) < (l.length : Int) := by omega
      have HK : Hid (behindB p (l.take k) = behindB p l) := by rw [Hid, List.take_of_length_le (by omega)]
      go_wp2_with fail
      go_ret
      exact ⟨_, rfl, by rw [← HK.out]; exact HH.out.1, HH.out.2⟩
end Go.Proofs.Ytbmohenjphmlgaa

/- The walks of proofFault and tableFault (of the program). -/
namespace Go.Proofs.Ytbmohenjphmlgaa
open Go.RowKit
set_option maxRecDepth 100000

/-- Texts in a row, in blocks below B. -/
def SRd (B : Nat) (w : World) (a : Option Addr) (l : List ByteArray) : Prop :=
  ∀ i, (h : i < l.length) → ∃ b off, a = some ⟨b, off, none⟩ ∧ b < B ∧ w.cell? ⟨b, off + i, none⟩ = some (.string l[i])

theorem SRd.later {B : Nat} {w w' : World} {a : Option Addr} {l : List ByteArray} (h : SRd B w a l) (hb : Below B w w') : SRd B w' a l := by
  intro i hi
  obtain ⟨b, off, rfl, hlt, c0⟩ := h i hi
  exact ⟨b, off, rfl, hlt, (hb.cell (p := ⟨b, off + i, none⟩) hlt).trans c0⟩

theorem SRd.wider {B B' : Nat} {w : World} {a : Option Addr} {l : List ByteArray} (h : SRd B w a l) (hB : B ≤ B') : SRd B' w a l := by
  intro i hi
  obtain ⟨b, off, e, hlt, c0⟩ := h i hi
  exact ⟨b, off, e, Nat.lt_of_lt_of_le hlt hB, c0⟩

theorem srd_nil (B : Nat) (w : World) (a : Option Addr) : SRd B w a [] := fun i hi => by simp at hi

/-- What is wrong with a proof before it is looked into. -/
def pfault (root key : ByteArray) (l : List ByteArray) : Nat :=
  if root.size ≠ 8 then 5 else if 6 < key.size then 3 else if 20 < l.length then 2 else if ∃ s ∈ l, 1000 < s.size then 2 else 0

theorem pfault_root {root key : ByteArray} {l : List ByteArray} (h : root.size ≠ 8) : pfault root key l = 5 := by unfold pfault; rw [if_pos h]
theorem pfault_key {root key : ByteArray} {l : List ByteArray} (h : root.size = 8) (h2 : 6 < key.size) : pfault root key l = 3 := by unfold pfault; rw [if_neg (by omega), if_pos h2]
theorem pfault_many {root key : ByteArray} {l : List ByteArray} (h : root.size = 8) (h2 : ¬ 6 < key.size) (h3 : 20 < l.length) : pfault root key l = 2 := by unfold pfault; rw [if_neg (by omega), if_neg h2, if_pos h3]
theorem pfault_big {root key : ByteArray} {l : List ByteArray} (h : root.size = 8) (h2 : ¬ 6 < key.size) (h3 : ¬ 20 < l.length) (h4 : ∃ s ∈ l, 1000 < s.size) : pfault root key l = 2 := by unfold pfault; rw [if_neg (by omega), if_neg h2, if_neg h3, if_pos h4]
theorem pfault_ok {root key : ByteArray} {l : List ByteArray} (h : root.size = 8) (h2 : ¬ 6 < key.size) (h3 : ¬ 20 < l.length) (h4 : ∀ s ∈ l, ¬ 1000 < s.size) : pfault root key l = 0 := by unfold pfault; rw [if_neg (by omega), if_neg h2, if_neg h3, if_neg (fun ⟨s, hs, h⟩ => h4 s hs h)]

set_option maxHeartbeats 1600000 in
theorem proofFault_any (root key : ByteArray) (a : Option Addr) (cap : Nat) (l : List ByteArray) (w : World) (hr : SRd w.heap.size w a l) : Calls Try.prog 103 #[.string root, .string key, .slice a l.length cap] w fun e w' => e = .returned (.int .i64 (pfault root key l)) ∧ w' = w := by
  have HI := hid (fun s w => isRoot_any s w)
  have HK := hid (fun s w => isLongKey_any s w)
  have HR := hid hr
  clear hr
  by_cases h1 : root.size = 8
  · have D1 : Hid (decide ((root.size : Int) = 8) = true) := decide_eq_true (by omega)
    by_cases h2 : 6 < key.size
    · have D2 : Hid (decide ((6 : Int) < key.size) = true) := decide_eq_true (by omega)
      rw [pfault_key h1 h2]
      clear h1 h2
      go_enter Try.func103, Try.ntmps103
      go_wp2_with fail
      refine (HI.out _ _).mono ?_
      rintro e w1 ⟨rfl, hw⟩
      obtain rfl := hw.symm
      rw [D1.out]
      go_wp2_with fail
      refine (HK.out _ _).mono ?_
      rintro e w1 ⟨rfl, hw⟩
      obtain rfl := hw.symm
      rw [D2.out]
      go_wp2_with fail
      go_ret
      exact ⟨rfl, rfl⟩
    · have D2 : Hid (decide ((6 : Int) < key.size) = false) := decide_eq_false (by omega)
      by_cases h3 : 20 < l.length
      · rw [pfault_many h1 h2 h3]
        have h3' : (20 : Int) < (l.length : Int) := by omega
        clear h1 h2 h3
        go_enter Try.func103, Try.ntmps103
        go_wp2_with fail
        refine (HI.out _ _).mono ?_
        rintro e w1 ⟨rfl, hw⟩
        obtain rfl := hw.symm
        rw [D1.out]
        go_wp2_with fail
        refine (HK.out _ _).mono ?_
        rintro e w1 ⟨rfl, hw⟩
        obtain rfl := hw.symm
        rw [D2.out]
        go_wp2_with fail
        go_ret
        exact ⟨rfl, rfl⟩
      · have h3' : ¬ (20 : Int) < (l.length : Int) := by omega
        have HF : Hid (∀ n, (∃ s ∈ l, 1000 < s.size) → n = 2 → n = pfault root key l) := fun n h hn => by rw [hn, pfault_big h1 h2 h3 h]
        have HG : Hid (∀ n, (∀ s ∈ l, ¬ 1000 < s.size) → n = 0 → n = pfault root key l) := fun n h hn => by rw [hn, pfault_ok h1 h2 h3 h]
        generalize pfault root key l = N at *
        clear h1 h2
        go_enter Try.func103, Try.ntmps103
        go_wp2_with fail
        refine (HI.out _ _).mono ?_
        rintro e w1 ⟨rfl, hw⟩
        obtain rfl := hw.symm
        rw [D1.out]
        go_wp2_with fail
        refine (HK.out _ _).mono ?_
        rintro e w1 ⟨rfl, hw⟩
        obtain rfl := hw.symm
        rw [D2.out]
        go_wp2_with fail
        go_loopw [8, 22] (fun _ i wr => ∃ k : Nat, i = .int .i64 k ∧ k ≤ l.length ∧ Hid (∀ j, (h : j < l.length) → j < k → ¬ 1000 < l[j].size) ∧ wr = w) (fun _ i _ => l.length - (intOf i).toNat)
        case atStart => exact ⟨0, rfl, Nat.zero_le _, fun j _ h => by omega, rfl⟩
        case round =>
          obtain ⟨k, rfl, hk, HH, rfl⟩ := hrel
          by_cases hlt : k < l.length
          · obtain ⟨b, off, rfl, hb, e0⟩ := HR.out k hlt
            have i1 : (0 : Int) ≤ (k : Int) := by omega
            have i2 : (k : Int) < (l.length : Int) := by omega
            by_cases hz : 1000 < l[k].size
            · have HE : Hid (∃ s ∈ l, 1000 < s.size) := ⟨_, List.getElem_mem hlt, hz⟩
              have hz' : (1000 : Int) < (l[k].size : Int) := by omega
              go_wp2_with fail
              go_ret
              exact ⟨by rw [← HF.out 2 HE.out rfl]; rfl, rfl⟩
            · have hz' : ¬ (1000 : Int) < (l[k].size : Int) := by omega
              have HE : Hid (∀ j, (h : j < l.length) → j < k + 1 → ¬ 1000 < l[j].size) := fun j hj hjk => by
                by_cases e : j = k
                · subst e; exact hz
                · exact HH.out j hj (by omega)
              clear hz
              go_wp2_with fail
              exact ⟨⟨k + 1, by go_num, by omega, HE.out, trivial⟩, by simp [intOf]; omega⟩
          · have i2 : ¬ (k : Int) < (l.length : Int) := by omega
            have HE : Hid (∀ s ∈ l, ¬ 1000 < s.size) := fun s hs => by
              obtain ⟨j, hj, rfl⟩ := List.getElem_of_mem hs
              exact HH.out j hj (by omega)
            go_wp2_with fail
            go_ret
            exact ⟨by rw [← HG.out 0 HE.out rfl]; rfl, rfl⟩
  · have D1 : Hid (decide ((root.size : Int) = 8) = false) := decide_eq_false (by omega)
    rw [pfault_root h1]
    clear h1
    go_enter Try.func103, Try.ntmps103
    go_wp2_with fail
    refine (HI.out _ _).mono ?_
    rintro e w1 ⟨rfl, hw⟩
    obtain rfl := hw.symm
    rw [D1.out]
    go_wp2_with fail
    go_ret
    exact ⟨rfl, rfl⟩

/-- What is wrong with pairs. -/
def tfault (l : List (ByteArray × ByteArray)) (key : ByteArray) : Nat :=
  if 60 < l.length then 2 else if (∃ p ∈ l, 6 < p.1.size) ∨ 6 < key.size then 3 else if ∃ p ∈ l, 40 < p.2.size then 4 else 0

theorem tfault_many {l : List (ByteArray × ByteArray)} {key : ByteArray} (h : 60 < l.length) : tfault l key = 2 := by unfold tfault; rw [if_pos h]
theorem tfault_key {l : List (ByteArray × ByteArray)} {key : ByteArray} (h : ¬ 60 < l.length) (h2 : (∃ p ∈ l, 6 < p.1.size) ∨ 6 < key.size) : tfault l key = 3 := by unfold tfault; rw [if_neg h, if_pos h2]
theorem tfault_value {l : List (ByteArray × ByteArray)} {key : ByteArray} (h : ¬ 60 < l.length) (h2 : ∀ p ∈ l, ¬ 6 < p.1.size) (h3 : ¬ 6 < key.size) (h4 : ∃ p ∈ l, 40 < p.2.size) : tfault l key = 4 := by unfold tfault; rw [if_neg h, if_neg (fun x => x.elim (fun ⟨p, hp, hx⟩ => h2 p hp hx) h3), if_pos h4]
theorem tfault_ok {l : List (ByteArray × ByteArray)} {key : ByteArray} (h : ¬ 60 < l.length) (h2 : ∀ p ∈ l, ¬ 6 < p.1.size) (h3 : ¬ 6 < key.size) (h4 : ∀ p ∈ l, ¬ 40 < p.2.size) : tfault l key = 0 := by unfold tfault; rw [if_neg h, if_neg (fun x => x.elim (fun ⟨p, hp, hx⟩ => h2 p hp hx) h3), if_neg (fun ⟨p, hp, hx⟩ => h4 p hp hx)]

theorem tableFault_many (key : ByteArray) (a : Option Addr) (n cap : Nat) (w : World) (h : 60 < n) : Calls Try.prog 72 #[.slice a n cap, .string key] w fun e w' => e = .returned (.int .i64 2) ∧ w' = w := by
  have h' : (60 : Int) < (n : Int) := by omega
  clear h
  go_enter Try.func72, Try.ntmps72
  go_wp2_with fail
  go_ret
  exact ⟨rfl, rfl⟩

set_option maxHeartbeats 3200000 in
theorem tableFault_any (key : ByteArray) (a : Option Addr) (cap : Nat) (l : List (ByteArray × ByteArray)) (w : World) (hr : PRd w.heap.size w a l) : Calls Try.prog 72 #[.slice a l.length cap, .string key] w fun e w' => e = .returned (.int .i64 (tfault l key)) ∧ Below w.heap.size w w' := by
  by_cases h0 : 60 < l.length
  · rw [tfault_many h0]
    refine (tableFault_many key a _ cap w h0).mono ?_
    rintro e w' ⟨rfl, rfl⟩
    exact ⟨rfl, Below.refl _ _⟩
  · have HK := hid (fun s w => isLongKey_any s w)
    have HR := hid hr
    have h0' : ¬ (60 : Int) < (l.length : Int) := by omega
    have HF3 : Hid (∀ n, ((∃ p ∈ l, 6 < p.1.size) ∨ 6 < key.size) → n = 3 → n = tfault l key) := fun n h hn => by rw [hn, tfault_key h0 h]
    have HF4 : Hid (∀ n, (∀ p ∈ l, ¬ 6 < p.1.size) → ¬ 6 < key.size → (∃ p ∈ l, 40 < p.2.size) → n = 4 → n = tfault l key) := fun n h1 h2 h3 hn => by rw [hn, tfault_value h0 h1 h2 h3]
    have HF0 : Hid (∀ n, (∀ p ∈ l, ¬ 6 < p.1.size) → ¬ 6 < key.size → (∀ p ∈ l, ¬ 40 < p.2.size) → n = 0 → n = tfault l key) := fun n h1 h2 h3 hn => by rw [hn, tfault_ok h0 h1 h2 h3]
    generalize tfault l key = N at *
    clear hr h0
    go_enter Try.func72, Try.ntmps72
    go_wp2_with fail
    go_loopw [6, 14] (fun _ i wr => ∃ k : Nat, i = .int .i64 k ∧ k ≤ l.length ∧ Hid ((∀ j, (h : j < l.length) → j < k → ¬ 6 < l[j].1.size) ∧ Below w.heap.size w wr)) (fun _ i _ => l.length - (intOf i).toNat)
    case atStart => exact ⟨0, rfl, Nat.zero_le _, fun j _ h => by omega, Below.refl _ _⟩
    case round =>
      obtain ⟨k, rfl, hk, HH⟩ := hrel
      by_cases hlt : k < l.length
      · obtain ⟨b, off, rfl, hb, e0, e1⟩ := HR.out k hlt
        have f0 := (HH.out.2.cell (p := ⟨b, off + k * 2, none⟩) hb).trans e0
        have f1 := (HH.out.2.cell (p := ⟨b, off + k * 2 + 1, none⟩) hb).trans e1
        have i1 : (0 : Int) ≤ (k : Int) := by omega
        have i2 : (k : Int) < (l.length : Int) := by omega
        clear e0 e1
        go_wp2_with fail
        refine (HK.out _ _).mono ?_
        rintro e w1 ⟨rfl, hw⟩
        obtain rfl := hw.symm
        by_cases hz : 6 < l[k].1.size
        · have HE : Hid (∃ p ∈ l, 6 < p.1.size) := ⟨_, List.getElem_mem hlt, hz⟩
          rw [decide_eq_true (by omega : (6 : Int) < (l[k].1.size : Int))]
          go_wp2_with fail
          go_ret
          exact ⟨by rw [← HF3.out 3 (.inl HE.out) rfl]; rfl, HH.out.2.alloc HH.out.2.size _⟩
        · rw [decide_eq_false (by omega : ¬ (6 : Int) < (l[k].1.size : Int))]
          have HE : Hid (∀ j, (h : j < l.length) → j < k + 1 → ¬ 6 < l[j].1.size) := fun j hj hjk => by
            by_cases e : j = k
            · subst e; exact hz
            · exact HH.out.1 j hj (by omega)
          clear hz
          go_wp2_with fail
          exact ⟨⟨k + 1, by go_num, by omega, HE.out, HH.out.2.alloc HH.out.2.size _⟩, by simp [intOf]; omega⟩
      · have i2 : ¬ (k : Int) < (l.length : Int) := by omega
        have HE : Hid (∀ p ∈ l, ¬ 6 < p.1.size) := fun s hs => by
          obtain ⟨j, hj, rfl⟩ := List.getElem_of_mem hs
          exact HH.out.1 j hj (by omega)
        have HBr := hid HH.out.2
        clear HH hk
        go_wp2_with fail
        refine (HK.out _ _).mono ?_
        rintro e w1 ⟨rfl, hw⟩
        obtain rfl := hw.symm
        by_cases hz : 6 < key.size
        · rw [decide_eq_true (by omega : (6 : Int) < (key.size : Int))]
          have HZ := hid hz
          go_wp2_with fail
          go_ret
          exact ⟨by rw [← HF3.out 3 (.inr HZ.out) rfl]; rfl, HBr.out⟩
        · rw [decide_eq_false (by omega : ¬ (6 : Int) < (key.size : Int))]
          have HZ := hid hz
          clear hz
          go_wp2_with fail
          go_loopw [8, 26] (fun _ i wx => ∃ k : Nat, i = .int .i64 k ∧ k ≤ l.length ∧ Hid ((∀ j, (h : j < l.length) → j < k → ¬ 40 < l[j].2.size) ∧ Below w.heap.size w wx)) (fun _ i _ => l.length - (intOf i).toNat)
          case atStart => exact ⟨0, rfl, Nat.zero_le _, fun j _ h => by omega, HBr.out⟩
          case round =>
            obtain ⟨m, rfl, hm, HM⟩ := hrel
            by_cases hlt : m < l.length
            · obtain ⟨b, off, rfl, hb, e0, e1⟩ := HR.out m hlt
              have f0 := (HM.out.2.cell (p := ⟨b, off + m * 2, none⟩) hb).trans e0
              have f1 := (HM.out.2.cell (p := ⟨b, off + m * 2 + 1, none⟩) hb).trans e1
              have i1 : (0 : Int) ≤ (m : Int) := by omega
              have i3 : (m : Int) < (l.length : Int) := by omega
              clear e0 e1
              by_cases hv : 40 < l[m].2.size
              · have HV : Hid (∃ p ∈ l, 40 < p.2.size) := ⟨_, List.getElem_mem hlt, hv⟩
                have hv' : (40 : Int) < (l[m].2.size : Int) := by omega
                clear hv
                go_wp2_with fail
                go_ret
                exact ⟨by rw [← HF4.out 4 HE.out HZ.out HV.out rfl]; rfl, HM.out.2.alloc HM.out.2.size _⟩
              · have hv' : ¬ (40 : Int) < (l[m].2.size : Int) := by omega
                have HV : Hid (∀ j, (h : j < l.length) → j < m + 1 → ¬ 40 < l[j].2.size) := fun j hj hjk => by
                  by_cases e : j = m
                  · subst e; exact hv
                  · exact HM.out.1 j hj (by omega)
                clear hv
                go_wp2_with fail
                exact ⟨⟨m + 1, by go_num, by omega, HV.out, HM.out.2.alloc HM.out.2.size _⟩, by simp [intOf]; omega⟩
            · have i3 : ¬ (m : Int) < (l.length : Int) := by omega
              have HV : Hid (∀ p ∈ l, ¬ 40 < p.2.size) := fun s hs => by
                obtain ⟨j, hj, rfl⟩ := List.getElem_of_mem hs
                exact HM.out.1 j hj (by omega)
              go_wp2_with fail
              go_ret
              exact ⟨by rw [← HF0.out 0 HE.out HZ.out HV.out rfl]; rfl, HM.out.2⟩
end Go.Proofs.Ytbmohenjphmlgaa

/- Rows of texts of a call's own. -/
namespace Go.Proofs.Ytbmohenjphmlgaa
open Go.RowKit
set_option maxRecDepth 100000

theorem infoText : (Try.prog.info? 9).map (fun i => (i.zero, i.size, i.bytes)) = some (some (.string ⟨#[]⟩), 1, 16) := by kernel_rfl

def tcells (l : List ByteArray) : List Value := l.map .string
theorem tcells_len (l : List ByteArray) : (tcells l).length = l.length := by simp [tcells]
theorem tcells_at (l : List ByteArray) (i : Nat) (hi : i < l.length) : (tcells l)[i]? = some (.string l[i]) := by simp [tcells, hi]
theorem tcells_one (l : List ByteArray) : ∀ u ∈ tcells l, u.oneCell' = true := by
  intro u hu
  obtain ⟨s, _, rfl⟩ := List.mem_map.1 hu
  rfl

def TOwn (w : World) (base : Nat) (v : Value) (l : List ByteArray) : Prop := w.ownsRow base 9 1 v l.length (tcells l)

theorem town_nil (w : World) (base : Nat) : TOwn w base (.slice none 0 0) [] := World.ownsRow_nil _ _ _ _
theorem town_shape {w : World} {base : Nat} {v : Value} {l : List ByteArray} (h : TOwn w base v l) : ∃ a cap, v = .slice a l.length cap ∧ l.length ≤ cap := by
  rcases h.2 with ⟨rfl, h0⟩ | ⟨g, cap, cur, rfl, _, _, hn, _⟩
  · exact ⟨none, 0, by rw [h0], by omega⟩
  · exact ⟨_, cap, rfl, hn⟩
theorem town_frame {w w' : World} {b : Nat} {v : Value} {l : List ByteArray} (h : TOwn w b v l) (hg : ∀ g, v.ownBlock = some g → w'.heap[g]? = w.heap[g]?) : TOwn w' b v l := owns_frame h hg
theorem town_lt {w : World} {b : Nat} {v : Value} {l : List ByteArray} (h : TOwn w b v l) : ∀ g, v.ownBlock = some g → b ≤ g ∧ g < w.heap.size := World.ownsRow.lt h
theorem town_later {w w' : World} {b : Nat} {v : Value} {l : List ByteArray} (h : TOwn w b v l) (hb : Below w.heap.size w w') : TOwn w' b v l := town_frame h fun g hg => hb.block g (town_lt h g hg).2

theorem town_rd {w : World} {base : Nat} {a : Option Addr} {n cap : Nat} {l : List ByteArray} (h : TOwn w base (.slice a n cap) l) : SRd w.heap.size w a l := by
  intro i hi
  rcases h.2 with ⟨_, h0⟩ | ⟨g, cap', cur, hv, hbg, hg, _⟩
  · omega
  · have hlt := (Array.getElem?_eq_some_iff.1 hg).1
    simp only [Value.slice.injEq] at hv
    obtain ⟨rfl, _, _⟩ := hv
    have hc := World.ownsRow.cells (g := g) h rfl
    have a0 : ((⟨g, 0, none⟩ : Addr).add i) = ⟨g, 0 + i, none⟩ := by unfold Addr.add; split <;> simp_all
    exact ⟨g, 0, rfl, hlt, a0 ▸ hc _ _ (tcells_at l i hi)⟩

theorem tcells_snoc (l : List ByteArray) (p : ByteArray) : tcells (l ++ [p]) = tcells l ++ [.string p] := by simp [tcells]

theorem cells_lone (w : World) (a : Value) (e : TypeId) : ∀ j u, [a][j]? = some u → (w.alloc (.cells #[a] e)).cell? ((⟨w.heap.size, 0, none⟩ : Addr).add j) = some u := by
  intro j u hu
  match j with
  | 0 =>
    have e0 : u = a := by simpa using hu.symm
    subst e0
    have hh : (w.alloc (.cells #[u] e)).heap[w.heap.size]? = some (.cells #[u] e (0, 0)) := heap_alloc_new w _
    exact (cell_of_row _ _ 0 _ _ _ hh).trans rfl
  | j + 1 => simp at hu

/-- A text that was just laid is appended to a row of the call's own: for a walk. -/
theorem wpList_push_text {ops : Array Oper} {rest : List Oper} {o : Oper} {act : Act} {Q' : Exit → Act → World → Prop} (hgd : o.guard = none) (s x : Operand)
    (hop : o.op = .call { callee := .builtin .append, args := #[s, x], argTypes := #[34, 34] }) {W w0 wr : World} {B : Nat} {v1 : Value} {l1 : List ByteArray} (p : ByteArray) (L : Nat) (hL : wr.heap.size = L)
    (hs : act.eval s = v1) (hx : act.eval x = .slice (some ⟨L, 0, none⟩) 1 1) (ho : TOwn w0 B v1 l1) (hw : Below w0.heap.size w0 wr) (hb : Below B W w0) (hB : B ≤ W.heap.size) (hlen : l1.length ≤ 1000000)
    (h : ∀ v' w', TOwn w' B v' (l1 ++ [p]) → Below B W w' → wpList Try.prog ops Q' rest (act.put o.dst v') w') : wpList Try.prog ops Q' (o :: rest) act (wr.alloc (.cells #[.string p] 9)) := by
  subst hL
  obtain ⟨i0, hi, hz0, hz1, hz2⟩ := info_parts infoText
  have hb1 : Below B W wr := hb.trans (hw.mono (Nat.le_trans hB hb.size))
  have hb2 : Below B W (wr.alloc (.cells #[.string p] 9)) := hb1.alloc (Nat.le_trans hB hb1.size) _
  have hBw : B ≤ (wr.alloc (.cells #[.string p] 9)).heap.size := Nat.le_trans hB hb2.size
  have ho2 : TOwn (wr.alloc (.cells #[.string p] 9)) B v1 l1 := town_frame ho (fun g hg => by
    rw [Below.heap_alloc _ _ _ (Nat.lt_of_lt_of_le (town_lt ho g hg).2 hw.size)]
    exact hw.block g (town_lt ho g hg).2)
  refine wpList_append_mine _ hgd s x 34 hop B 9 i0 _ 1 16 Try.underlying34 hi hz0 hz1 hz2 rfl (by decide) v1 l1.length (tcells l1) hs ho2 ⟨wr.heap.size, 0, none⟩ 1 1 [.string p] hx rfl (cells_lone _ _ _) (by simp [Value.oneCell']) (by unfold maxLen; omega) (by omega) hBw ?_
  intro v' w' ho' hg _
  refine h v' w' ?_ (hb2.grown hg hBw (fun g hgg => (town_lt ho g hgg).1))
  unfold TOwn
  rw [List.length_append, tcells_snoc]
  exact ho'

/-- A text that was just laid is appended to a row of the call's own: at a step of a region that draws. -/
theorem step_push_text {ops : Array Oper} {o : Oper} {act : Act} {K : Act → World → Prop} {Q' : Exit → Act → World → Prop} {E : Prop} (hgd : o.guard = none) (s x : Operand)
    (hop : o.op = .call { callee := .builtin .append, args := #[s, x], argTypes := #[34, 34] }) {wr : World} {B : Nat} {v1 : Value} {l1 : List ByteArray} (p : ByteArray) (L : Nat) (hL : wr.heap.size = L)
    (hs : act.eval s = v1) (hx : act.eval x = .slice (some ⟨L, 0, none⟩) 1 1) (ho : TOwn wr B v1 l1) (hB : B ≤ wr.heap.size) (hlen : l1.length ≤ 1000000)
    (h : ∀ v' w', TOwn w' B v' (l1 ++ [p]) → Below B wr w' → (∀ k, k < wr.heap.size → v1.ownBlock ≠ some k → w'.heap[k]? = wr.heap[k]?) → K (act.put o.dst v') w') : if Region.wanted o (yielded ops act.tmps) = true then Oper.wp Try.prog o act (wr.alloc (.cells #[.string p] 9)) K Q' else E := by
  subst hL
  have hw : Region.wanted o (yielded ops act.tmps) = true := by simp [Region.wanted, hgd]
  rw [if_pos hw]
  obtain ⟨i0, hi, hz0, hz1, hz2⟩ := info_parts infoText
  have hb2 : Below B wr (wr.alloc (.cells #[.string p] 9)) := (Below.refl _ _).alloc hB _
  have hBw : B ≤ (wr.alloc (.cells #[.string p] 9)).heap.size := Nat.le_trans hB hb2.size
  have ho2 : TOwn (wr.alloc (.cells #[.string p] 9)) B v1 l1 := town_frame ho (fun g hg => Below.heap_alloc _ _ _ (town_lt ho g hg).2)
  obtain ⟨v', w', hr, h2, h3, _⟩ := run_append_mine (P := Try.prog) _ B 34 o.type 9 i0 _ 1 16 Try.underlying34 hi hz0 hz1 hz2 rfl (by decide) v1 l1.length (tcells l1) ho2 ⟨wr.heap.size, 0, none⟩ 1 1 [.string p] rfl (cells_lone _ _ _) (by simp [Value.oneCell']) (by unfold maxLen; omega) (by omega) hBw
  unfold Oper.wp execOp
  simp only [hop, resolve, invoke, builtin, Sem.run_bind, Sem.run_pure, Result.andThen_ok, List.map_toArray, List.map_cons, List.map_nil, hs, hx, hr]
  refine h v' w' ?_ (hb2.grown h3 hBw (fun g hgg => (town_lt ho g hgg).1)) (fun k hk hne => (h3.block k (by rw [alloc_size]; omega) (fun e => hne e.symm)).trans (Below.heap_alloc _ _ _ hk))
  unfold TOwn
  rw [List.length_append, tcells_snoc]
  exact h2

end Go.Proofs.Ytbmohenjphmlgaa

/- Items as they lie in memory, to be read: whoever made them, in blocks below some number. -/
namespace Go.Proofs.Ytbmohenjphmlgaa
open Go.RowKit
set_option maxRecDepth 100000

/-- v is the item t, as it reads in w; all its lists lie in blocks below B; at most n levels. -/
def Rep (B : Nat) (w : World) : Nat → Value → Itm → Prop
  | 0 => fun _ _ => False
  | n + 1 => fun v t => ∃ a cap, v = .agg #[.bool t.list, .string ⟨t.bytes.toArray⟩, .slice a t.items.length cap] ∧ t.items.length ≤ maxLen ∧
      ∀ i (h : i < t.items.length), ∃ b off c0 c1 c2, a = some ⟨b, off, none⟩ ∧ b < B ∧ w.cell? ⟨b, off + i * 3, none⟩ = some c0 ∧ w.cell? ⟨b, off + i * 3 + 1, none⟩ = some c1 ∧ w.cell? ⟨b, off + i * 3 + 2, none⟩ = some c2 ∧
        Rep B w n (.agg #[c0, c1, c2]) t.items[i]

theorem rep_frame {B : Nat} {w w' : World} (hb : Below B w w') : ∀ (n : Nat) (v : Value) (t : Itm), Rep B w n v t → Rep B w' n v t := by
  intro n
  induction n with
  | zero => intro v t h; exact h
  | succ n ih =>
    intro v t h
    obtain ⟨a, cap, hv, hm, h⟩ := h
    refine ⟨a, cap, hv, hm, fun i hi => ?_⟩
    obtain ⟨b, off, c0, c1, c2, ha, hlt, e0, e1, e2, hr⟩ := h i hi
    exact ⟨b, off, c0, c1, c2, ha, hlt, by rw [hb.cell hlt]; exact e0, by rw [hb.cell hlt]; exact e1, by rw [hb.cell hlt]; exact e2, ih _ _ hr⟩

theorem rep_wider {B B' : Nat} {w : World} (hB : B ≤ B') : ∀ (n : Nat) (v : Value) (t : Itm), Rep B w n v t → Rep B' w n v t := by
  intro n
  induction n with
  | zero => intro v t h; exact h
  | succ n ih =>
    intro v t h
    obtain ⟨a, cap, hv, hm, h⟩ := h
    refine ⟨a, cap, hv, hm, fun i hi => ?_⟩
    obtain ⟨b, off, c0, c1, c2, ha, hlt, e0, e1, e2, hr⟩ := h i hi
    exact ⟨b, off, c0, c1, c2, ha, by omega, e0, e1, e2, ih _ _ hr⟩

/-- The three cells of an item that is read. -/
theorem rep_shape {B : Nat} {w : World} {n : Nat} {c0 c1 c2 : Value} {t : Itm} (h : Rep B w n (.agg #[c0, c1, c2]) t) :
    ∃ a cap, c0 = .bool t.list ∧ c1 = .string ⟨t.bytes.toArray⟩ ∧ c2 = .slice a t.items.length cap := by
  cases n with
  | zero => exact h.elim
  | succ n =>
    obtain ⟨a, cap, hv, _⟩ := h
    simp at hv
    exact ⟨a, cap, hv.1, hv.2.1, hv.2.2⟩

/-- What is read in one world is read in a later one. -/
theorem rep_later {w w' : World} (hb : Below w.heap.size w w') {n : Nat} {v : Value} {t : Itm} (h : Rep w.heap.size w n v t) : Rep w'.heap.size w' n v t :=
  rep_wider hb.size n v t (rep_frame hb n v t h)

theorem tri_cells {w : World} {E base g cap n : Nat} {xs : List Value} (ho : w.ownsRow base E 3 (.slice (some ⟨g, 0, none⟩) n cap) n xs) (i : Nat) (hi : i < n) :
    w.cell? ⟨g, 0 + i * 3, none⟩ = some (xs.getD (3 * i) default) ∧ w.cell? ⟨g, 0 + i * 3 + 1, none⟩ = some (xs.getD (3 * i + 1) default) ∧ w.cell? ⟨g, 0 + i * 3 + 2, none⟩ = some (xs.getD (3 * i + 2) default) := by
  have hx := ho.1
  have key : ∀ j, j < n * 3 → w.cell? ⟨g, j, none⟩ = some (xs.getD j default) := by
    intro j hj
    rw [ho.cellAt j hj, List.getD_eq_getElem?_getD, List.getElem?_eq_getElem (by omega)]
    rfl
  exact ⟨by rw [Nat.zero_add, Nat.mul_comm i 3]; exact key _ (by omega), by rw [Nat.zero_add, Nat.mul_comm i 3]; exact key _ (by omega), by rw [Nat.zero_add, Nat.mul_comm i 3]; exact key _ (by omega)⟩

/-- What is owned can be read. -/
theorem rep_of_own {E : TypeId} {w : World} {B : Nat} : ∀ (n lo hi : Nat) (v : Value) (t : Itm), hi ≤ B → Own E w n lo hi v t → Rep B w n v t := by
  intro n
  induction n with
  | zero => intro lo hi v t _ h; exact h
  | succ n ih =>
    intro lo hi v t hB h
    obtain ⟨sl, hv, xs, ho, hg, L, H, hL, _⟩ := h
    rcases ho.2 with ⟨rfl, h0⟩ | ⟨g, cap, cur, rfl, _, _, hnc, hcm, _⟩
    · refine ⟨none, 0, by rw [hv, h0], by rw [h0]; exact Nat.zero_le _, fun i hi => ?_⟩
      omega
    · refine ⟨some ⟨g, 0, none⟩, cap, hv, Nat.le_trans hnc hcm, fun i hi => ?_⟩
      obtain ⟨q1, q2, q3, q4⟩ := hL i hi
      obtain ⟨e0, e1, e2⟩ := tri_cells ho i hi
      have hgl := hg g rfl
      exact ⟨g, 0, _, _, _, rfl, by omega, e0, e1, e2, ih (L i) (H i) _ _ (by omega) q4⟩

end Go.Proofs.Ytbmohenjphmlgaa

/- The walk of 'depth': an item that lies in memory has the depth that 'deep' says. -/
namespace Go.Proofs.Ytbmohenjphmlgaa
open Go.RowKit
set_option maxRecDepth 100000

/-- The greatest depth among the first k items. -/
def topTo (t : Itm) (k : Nat) : Nat := Itm.top ((t.items.take k).map Itm.deep)

theorem topTo_zero (t : Itm) : topTo t 0 = 0 := by simp [topTo, Itm.top_nil]

theorem topTo_succ (t : Itm) (k : Nat) (h : k < t.items.length) : topTo t (k + 1) = max (topTo t k) (Itm.deep t.items[k]) := by
  unfold topTo
  rw [List.take_succ_eq_append_getElem h, List.map_append, Itm.top_append]
  simp [Itm.top_cons, Itm.top_nil]

theorem topTo_all (t : Itm) (h : t.list = true) : Itm.deep t = topTo t t.items.length + 1 := by
  rw [Itm.deep_eq, if_pos h]
  simp [topTo]

theorem topTo_le (t : Itm) (k : Nat) (h : t.list = true) : topTo t k + 1 ≤ Itm.deep t := by
  rw [Itm.deep_eq, if_pos h]
  unfold topTo
  have : Itm.top ((t.items.take k).map Itm.deep) ≤ Itm.top (t.items.map Itm.deep) := by
    refine Itm.top_le fun x hx => Itm.le_top ?_
    simp only [List.mem_map] at hx ⊢
    obtain ⟨y, hy, rfl⟩ := hx
    exact ⟨y, List.mem_of_mem_take hy, rfl⟩
  omega

theorem deep_kid (t : Itm) (k : Nat) (hk : k < t.items.length) (h : t.list = true) : Itm.deep t.items[k] < Itm.deep t := by
  have h1 := topTo_le t (k + 1) h
  rw [topTo_succ t k hk] at h1
  omega

/-- An item that could be read in w can be read in any later world. -/
theorem rep_in {w w' : World} {n : Nat} {v : Value} {t : Itm} (h : Rep w.heap.size w n v t) (hb : Below w.heap.size w w') : Rep w'.heap.size w' n v t := rep_later hb h

set_option maxHeartbeats 800000 in
theorem depth_any (n : Nat) : ∀ (v : Value) (t : Itm) (w : World), Rep w.heap.size w n v t → Itm.deep t ≤ 1000000000 →
    Calls Try.prog 68 #[v] w fun e w' => e = .returned (.int .i64 (Itm.deep t)) ∧ Below w.heap.size w w' := by
  induction n with
  | zero => intro v t w h; exact h.elim
  | succ n ih =>
    intro v t w hrep hd
    obtain ⟨a, cap, rfl, hm, hkids⟩ := hrep
    by_cases hl : t.list
    · have hl' : t.list = true := hl
      have HK := hid hkids
      have IH := hid ih
      have HD := hid hd
      clear hkids ih hd hl
      unfold maxLen at hm
      have HL := hid hl'
      rw [hl']
      clear hl'
      go_enter Try.func68, Try.ntmps68
      go_wp2_with fail
      go_loopw [3, 12] (fun d i wr => ∃ k : Nat, k ≤ t.items.length ∧ i = .int .i64 k ∧ d = .int .i64 (topTo t k) ∧ Hid (Below w.heap.size w wr)) (fun _ i _ => t.items.length - (intOf i).toNat)
      case atStart => exact ⟨0, Nat.zero_le _, rfl, by rw [topTo_zero]; rfl, (Below.refl _ _).alloc (Nat.le_refl _) _⟩
      case round =>
        obtain ⟨k, hk, rfl, rfl, HB⟩ := hrel
        have htb : topTo t k + 1 ≤ 1000000000 := Nat.le_trans (topTo_le t k HL.out) HD.out
        by_cases hlt : k < t.items.length
        · obtain ⟨b, off, c0, c1, c2, rfl, hbl, e0, e1, e2, hr⟩ := HK.out k hlt
          obtain ⟨a2, cap2, rfl, rfl, rfl⟩ := rep_shape hr
          have f0 := (HB.out.cell (p := ⟨b, off + k * 3, none⟩) hbl).trans e0
          have f1 := (HB.out.cell (p := ⟨b, off + k * 3 + 1, none⟩) hbl).trans e1
          have f2 := (HB.out.cell (p := ⟨b, off + k * 3 + 2, none⟩) hbl).trans e2
          have HR := hid hr
          have hdk := deep_kid t k hlt HL.out
          have hdk2 : Itm.deep t.items[k] ≤ 1000000000 := by have := HD.out; omega
          have HT := hid (topTo_succ t k hlt)
          clear e0 e1 e2 hr hdk
          go_wp2_with fail
          have hbw := HB.out.alloc HB.out.size (Obj.cells #[Value.bool t.items[k].list, Value.string { data := t.items[k].bytes.toArray }, Value.slice a2 t.items[k].items.length cap2] 24)
          refine (IH.out _ t.items[k] _ (rep_in HR.out hbw) hdk2).mono ?_
          rintro e w1 ⟨rfl, hbel⟩
          have HB1 := hid hbel
          have HB0 := hid hbw
          clear hbel hbw
          go_wp2_with fail
          refine ⟨⟨k + 1, by omega, by go_num, congrArg (Value.int .i64) (by rw [HT.out]; omega), HB0.out.trans (HB1.out.mono HB0.out.size)⟩, by simp [intOf]; omega⟩
        · go_wp2_with fail
          go_ret
          refine ⟨?_, HB.out⟩
          have hke : k = t.items.length := by omega
          subst hke
          rw [topTo_all t HL.out]
          simp
    · have hl' : t.list = false := by simpa using hl
      rw [hl']
      have hd0 : Itm.deep t = 0 := by rw [Itm.deep_eq, hl']; rfl
      rw [hd0]
      clear ih hkids hd hd0 hl hl'
      go_enter Try.func68, Try.ntmps68
      go_wp2_with fail
      go_ret
      exact ⟨rfl, (Below.refl _ _).alloc (Nat.le_refl _) _⟩
end Go.Proofs.Ytbmohenjphmlgaa
