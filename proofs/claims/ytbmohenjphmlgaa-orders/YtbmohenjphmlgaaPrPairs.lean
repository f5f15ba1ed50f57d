/- Rows of pairs of strings, as they lie in memory; the walk of behind (of the program). -/
import Derived.Test.YtbmohenjphmlgaaPrFix
import Derived.Test.YtbmohenjphmlgaaMem
namespace Go.Proofs.Ytbmohenjphmlgaa
open Go.RowKit
set_option maxRecDepth 100000

theorem infoPair : (Try.prog.info? 133).map (fun i => (i.zero, i.size, i.bytes)) = some (some (.agg #[.string ⟨#[]⟩, .string ⟨#[]⟩]), 2, 32) := by kernel_rfl

/-- Pairs in a row, that can be read. -/
def PRd (B : Nat) (w : World) (a : Option Addr) (l : List (ByteArray × ByteArray)) : Prop :=
  ∀ i (h : i < l.length), ∃ b off, a = some ⟨b, off, none⟩ ∧ b < B ∧ w.cell? ⟨b, off + i * 2, none⟩ = some (.string l[i].1) ∧ w.cell? ⟨b, off + i * 2 + 1, none⟩ = some (.string l[i].2)

theorem PRd.later {B : Nat} {w w' : World} {a : Option Addr} {l : List (ByteArray × ByteArray)} (h : PRd B w a l) (hb : Below B w w') : PRd B w' a l := by
  intro i hi
  obtain ⟨b, off, ha, hlt, h1, h2⟩ := h i hi
  exact ⟨b, off, ha, hlt, by rw [hb.cell hlt]; exact h1, by rw [hb.cell hlt]; exact h2⟩

theorem PRd.wider {B B' : Nat} {w : World} {a : Option Addr} {l : List (ByteArray × ByteArray)} (h : PRd B w a l) (hB : B ≤ B') : PRd B' w a l := by
  intro i hi
  obtain ⟨b, off, ha, hlt, h1, h2⟩ := h i hi
  exact ⟨b, off, ha, by omega, h1, h2⟩

def pcells (l : List (ByteArray × ByteArray)) : List Value := l.flatMap fun p => [.string p.1, .string p.2]

theorem pcells_len (l : List (ByteArray × ByteArray)) : (pcells l).length = l.length * 2 := by
  induction l with
  | nil => rfl
  | cons p l ih => unfold pcells at *; rw [List.flatMap_cons, List.length_append, ih]; simp; omega

theorem pcells_snoc (l : List (ByteArray × ByteArray)) (p : ByteArray × ByteArray) : pcells (l ++ [p]) = pcells l ++ [.string p.1, .string p.2] := by simp [pcells]

theorem pcells_at (l : List (ByteArray × ByteArray)) (i : Nat) (h : i < l.length) : (pcells l)[i * 2]? = some (.string l[i].1) ∧ (pcells l)[i * 2 + 1]? = some (.string l[i].2) := by
  induction l generalizing i with
  | nil => simp at h
  | cons p l ih =>
    cases i with
    | zero => simp [pcells]
    | succ i =>
      have h' : i < l.length := by simpa using h
      have := ih i h'
      unfold pcells at *
      rw [List.flatMap_cons, show (i + 1) * 2 = i * 2 + 2 by omega, show i * 2 + 2 + 1 = i * 2 + 1 + 2 by omega]
      simpa using this

/-- Pairs in a row of the call's own. -/
def POwn (w : World) (base : Nat) (v : Value) (l : List (ByteArray × ByteArray)) : Prop := w.ownsRow base 133 2 v l.length (pcells l)

theorem pown_nil (w : World) (base : Nat) : POwn w base (.slice none 0 0) [] := World.ownsRow_nil _ _ _ _

theorem prd_of_pown {w : World} {base : Nat} {v : Value} {l : List (ByteArray × ByteArray)} (h : POwn w base v l) : ∃ a cap, v = .slice a l.length cap ∧ PRd w.heap.size w a l := by
  rcases h.2 with ⟨rfl, h0⟩ | ⟨g, cap, cur, rfl, hb, hg, _, _, _, _⟩
  · have : l = [] := List.eq_nil_of_length_eq_zero h0
    subst this
    exact ⟨none, 0, rfl, fun i hi => by simp at hi⟩
  · refine ⟨_, cap, rfl, fun i hi => ⟨g, 0, rfl, (Array.getElem?_eq_some_iff.1 hg).1, ?_, ?_⟩⟩
    · rw [Nat.zero_add, World.ownsRow.cellAt h _ (by omega)]
      exact (pcells_at l i hi).1
    · rw [Nat.zero_add, World.ownsRow.cellAt h _ (by omega)]
      exact (pcells_at l i hi).2

theorem pown_shape {w : World} {base : Nat} {v : Value} {l : List (ByteArray × ByteArray)} (h : POwn w base v l) : ∃ a cap, v = .slice a l.length cap := by
  obtain ⟨a, cap, hv, _⟩ := prd_of_pown h
  exact ⟨a, cap, hv⟩

theorem pown_frame {w w' : World} {b : Nat} {v : Value} {l : List (ByteArray × ByteArray)} (h : POwn w b v l) (hg : ∀ g, v.ownBlock = some g → w'.heap[g]? = w.heap[g]?) : POwn w' b v l := owns_frame h hg
theorem pown_lt {w : World} {b : Nat} {v : Value} {l : List (ByteArray × ByteArray)} (h : POwn w b v l) : ∀ g, v.ownBlock = some g → b ≤ g ∧ g < w.heap.size := World.ownsRow.lt h

theorem cells_two (w : World) (a b : Value) (e : TypeId) : ∀ j u, [a, b][j]? = some u → (w.alloc (.cells #[a, b] e)).cell? ((⟨w.heap.size, 0, none⟩ : Addr).add j) = some u := by
  intro j u hu
  have hadd : (⟨w.heap.size, 0, none⟩ : Addr).add j = ⟨w.heap.size, j, none⟩ := by unfold Addr.add; split <;> simp_all
  rw [hadd, cell_of_row _ _ j #[a, b] e (0, 0) (heap_alloc_new w _)]
  simpa using hu

/-- A pair that was just laid is appended to a row of the call's own: for a walk. -/
theorem wpList_push_pair {ops : Array Oper} {rest : List Oper} {o : Oper} {act : Act} {Q' : Exit → Act → World → Prop} (hgd : o.guard = none) (s x : Operand)
    (hop : o.op = .call { callee := .builtin .append, args := #[s, x], argTypes := #[111, 111] }) {W w0 wr : World} {B : Nat} {v1 : Value} {l1 : List (ByteArray × ByteArray)} (p : ByteArray × ByteArray) (L : Nat) (hL : wr.heap.size = L)
    (hs : act.eval s = v1) (hx : act.eval x = .slice (some ⟨L, 0, none⟩) 1 1) (ho : POwn w0 B v1 l1) (hw : Below w0.heap.size w0 wr) (hb : Below B W w0) (hB : B ≤ W.heap.size) (hlen : l1.length ≤ 1000000)
    (h : ∀ v' w', POwn w' B v' (l1 ++ [p]) → Below B W w' → wpList Try.prog ops Q' rest (act.put o.dst v') w') : wpList Try.prog ops Q' (o :: rest) act (wr.alloc (.cells #[.string p.1, .string p.2] 133)) := by
  subst hL
  obtain ⟨i0, hi, hz0, hz1, hz2⟩ := info_parts infoPair
  have hb1 : Below B W wr := hb.trans (hw.mono (Nat.le_trans hB hb.size))
  have hb2 : Below B W (wr.alloc (.cells #[.string p.1, .string p.2] 133)) := hb1.alloc (Nat.le_trans hB hb1.size) _
  have hBw : B ≤ (wr.alloc (.cells #[.string p.1, .string p.2] 133)).heap.size := Nat.le_trans hB hb2.size
  have ho2 : POwn (wr.alloc (.cells #[.string p.1, .string p.2] 133)) B v1 l1 := pown_frame ho (fun g hg => by
    rw [Below.heap_alloc _ _ _ (Nat.lt_of_lt_of_le (pown_lt ho g hg).2 hw.size)]
    exact hw.block g (pown_lt ho g hg).2)
  refine wpList_append_mine _ hgd s x 111 hop B 133 i0 _ 2 32 Try.underlying111 hi hz0 hz1 hz2 rfl (by decide) v1 l1.length (pcells l1) hs ho2 ⟨wr.heap.size, 0, none⟩ 1 1 [.string p.1, .string p.2] hx rfl (cells_two _ _ _ _) (by simp [Value.oneCell']) (by unfold maxLen; omega) (by omega) hBw ?_
  intro v' w' ho' hg _
  refine h v' w' ?_ (hb2.grown hg hBw (fun g hgg => (pown_lt ho g hgg).1))
  unfold POwn
  rw [List.length_append, pcells_snoc]
  exact ho'

/-- Those that begin with p, without it. -/
def behindB (p : ByteArray) (l : List (ByteArray × ByteArray)) : List (ByteArray × ByteArray) := l.filterMap fun x => if pre p x.1 then some (cutP p x.1, x.2) else none

theorem behindB_hit (p : ByteArray) (l : List (ByteArray × ByteArray)) (k : Nat) (h : k < l.length) (hp : pre p l[k].1 = true) : behindB p (l.take (k + 1)) = behindB p (l.take k) ++ [(cutP p l[k].1, l[k].2)] := by
  rw [List.take_succ_eq_append_getElem h]
  unfold behindB
  rw [List.filterMap_append]
  simp [hp]
theorem behindB_miss (p : ByteArray) (l : List (ByteArray × ByteArray)) (k : Nat) (h : k < l.length) (hp : pre p l[k].1 = false) : behindB p (l.take (k + 1)) = behindB p (l.take k) := by
  rw [List.take_succ_eq_append_getElem h]
  unfold behindB
  rw [List.filterMap_append]
  simp [hp]
theorem behindB_le (p : ByteArray) (l : List (ByteArray × ByteArray)) : (behindB p l).length ≤ l.length := List.length_filterMap_le _ _

set_option maxHeartbeats 1600000 in
theorem behindP_any (p : ByteArray) (a : Option Addr) (cap : Nat) (l : List (ByteArray × ByteArray)) (w : World) (hr : PRd w.heap.size w a l) (hl : l.length ≤ 1000000) : Calls Try.prog 100 #[.string p, .slice a l.length cap] w fun e w' => ∃ v, e = .returned v ∧ POwn w' w.heap.size v (behindB p l) ∧ Below w.heap.size w w' := by
  have HR := hid hr
  have HC := hid (fun s w => cutPrefix_any s p w)
  clear hr
  go_enter Try.func100, Try.ntmps100
  go_wp2_with fail
  go_loopw [5, 12] (fun v i wr => ∃ k : Nat, i = .int .i64 k ∧ k ≤ l.length ∧ Hid (POwn wr w.heap.size v (behindB p (l.take k)) ∧ Below w.heap.size w wr)) (fun _ i _ => l.length - (intOf i).toNat)
  case atStart => exact ⟨0, rfl, Nat.zero_le _, pown_nil _ _, Below.refl _ _⟩
  case round =>
    obtain ⟨k, rfl, hk, HH⟩ := hrel
    obtain ⟨av, cv, hv⟩ := pown_shape HH.out.1
    subst hv
    by_cases hlt : k < l.length
    · obtain ⟨b, off, rfl, hb, e0, e1⟩ := HR.out k hlt
      have f0 := (HH.out.2.cell (p := ⟨b, off + k * 2, none⟩) hb).trans e0
      have f1 := (HH.out.2.cell (p := ⟨b, off + k * 2 + 1, none⟩) hb).trans e1
      have i1 : (0 : Int) ≤ (k : Int) := by omega
      have i2 : (k : Int) < (l.length : Int) := by omega
      clear e0 e1
      cases hp : pre p l[k].1 with
      | true =>
        have HB := hid (behindB_hit p l k hlt hp)
        have HP := hid hp
        have HLE : Hid ((behindB p (l.take k)).length ≤ 1000000) := by
          have := behindB_le p (l.take k)
          rw [List.length_take] at this
          rw [Hid]; omega
        clear hp
        generalize behindB p (l.take k) = bk at *
        go_wp2_with fail
        refine (HC.out _ _).mono ?_
        rintro e w1 ⟨rfl, rfl⟩
        rw [HP.out]
        go_wp2_with (at_builtin; go_loud (refine wpList_push_pair rfl (.tmp 24) (.tmp 29) rfl (cutP p l[k].1, l[k].2) (wr.heap.size + 1) (alloc_size _ _) rfl rfl HH.out.1 ((Below.refl _ _).alloc (Nat.le_refl _) _) HH.out.2 (Nat.le_refl _) HLE.out ?_); intro v' w' ho' hb'; have HO' := hid ho'; have HB' := hid hb'; clear ho' hb')
        exact ⟨⟨k + 1, by go_num, by omega, by rw [HB.out]; exact HO'.out, HB'.out⟩, by simp [intOf]; omega⟩
      | false =>
        have HB := hid (behindB_miss p l k hlt hp)
        have HP := hid hp
        clear hp
        generalize behindB p (l.take k) = bk at *
        go_wp2_with fail
        refine (HC.out _ _).mono ?_
        rintro e w1 ⟨rfl, rfl⟩
        rw [HP.out]
        go_wp2_with fail
        exact ⟨⟨k + 1, by go_num, by omega, by rw [HB.out]; exact pown_frame HH.out.1 (fun g hg => Below.heap_alloc _ _ _ (pown_lt HH.out.1 g hg).2), HH.out.2.alloc HH.out.2.size _⟩, by simp [intOf]; omega⟩
    · have i2 : ¬ (k : Int) < (l.length : Int) := by omega
      have HK : Hid (behindB p (l.take k) = behindB p l) := by rw [Hid, List.take_of_length_le (by omega)]
      go_wp2_with fail
      go_ret
      exact ⟨_, rfl, by rw [← HK.out]; exact HH.out.1, HH.out.2⟩
end Go.Proofs.Ytbmohenjphmlgaa
