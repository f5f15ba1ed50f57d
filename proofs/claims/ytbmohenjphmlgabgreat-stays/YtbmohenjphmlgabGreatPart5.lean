/- Part 5 of a proof: what the last text needs. -/
import Derived.Test.YtbmohenjphmlgabGreatPart4
import Derived.Test.YtbmohenjphmlgabGreatPart3
import Derived.Deep.LoopGhost
/- Rows of pairs of strings, as they lie in memory; the walk of behind (of the program). -/
namespace Go.Proofs.YtbmohenjphmlgabGreat
open Go.RowKit
set_option maxRecDepth 100000

theorem infoPair : (Tryz.prog.info? 102).map (fun i => (i.zero, i.size, i.bytes)) = some (some (.agg #[.string ⟨#[]⟩, .string ⟨#[]⟩]), 2, 32) := by kernel_rfl

/-- Pairs in a row, that can be read. -/
def PRd (B : Nat) (w : World) (a : Option Addr) (l : List (ByteArray × ByteArray)) : Prop :=
  ∀ i (h : i < l.length), ∃ b off, a = some ⟨b, off, none⟩ ∧ b < B ∧ w.cell? ⟨b, off + i * 2, none⟩ = some (.string l[i].1) ∧ w.cell? ⟨b, off + i * 2 + 1, none⟩ = some (.string l[i].2)

theorem PRd.later {B : Nat} {w w' : World} {a : Option Addr} {l : List (ByteArray × ByteArray)} (h : PRd B w a l) (hb : Below B w w') : PRd B w' a l := by
  intro i hi
  obtain ⟨b, off, ha, hlt, h1, h2⟩ := h i hi
  exact ⟨b, off, ha, hlt, by rw [hb.cell hlt]; exact h1, by rw [hb.cell hlt]; exact h2⟩

theorem PRd.wider {B B' : Nat} {w : World} {a : Option Addr} {l : List (ByteArray × ByteArray)} (h : PRd B w a l) (hB : B ≤ B') : PRd B' w a l := by
  intro i hi
  obtain ⟨b, off, ha, hlt, h1, h2⟩ := h i hi
  exact ⟨b, off, ha, by omega, h1, h2⟩

def pcells (l : List (ByteArray × ByteArray)) : List Value := l.flatMap fun p => [.string p.1, .string p.2]

theorem pcells_len (l : List (ByteArray × ByteArray)) : (pcells l).length = l.length * 2 := by
  induction l with
  | nil => rfl
  | cons p l ih => unfold pcells at *; rw [List.flatMap_cons, List.length_append, ih]; simp; omega

theorem pcells_snoc (l : List (ByteArray × ByteArray)) (p : ByteArray × ByteArray) : pcells (l ++ [p]) = pcells l ++ [.string p.1, .string p.2] := by simp [pcells]

theorem pcells_at (l : List (ByteArray × ByteArray)) (i : Nat) (h : i < l.length) : (pcells l)[i * 2]? = some (.string l[i].1) ∧ (pcells l)[i * 2 + 1]? = some (.string l[i].2) := by
  induction l generalizing i with
  | nil => simp at h
  | cons p l ih =>
    cases i with
    | zero => simp [pcells]
    | succ i =>
      have h' : i < l.length := by simpa using h
      have := ih i h'
      unfold pcells at *
      rw [List.flatMap_cons, show (i + 1) * 2 = i * 2 + 2 by omega, show i * 2 + 2 + 1 = i * 2 + 1 + 2 by omega]
      simpa using this

/-- Pairs in a row of the call's own. -/
def POwn (w : World) (base : Nat) (v : Value) (l : List (ByteArray × ByteArray)) : Prop := w.ownsRow base 102 2 v l.length (pcells l)

theorem pown_nil (w : World) (base : Nat) : POwn w base (.slice none 0 0) [] := World.ownsRow_nil _ _ _ _

theorem prd_of_pown {w : World} {base : Nat} {v : Value} {l : List (ByteArray × ByteArray)} (h : POwn w base v l) : ∃ a cap, v = .slice a l.length cap ∧ PRd w.heap.size w a l := by
  rcases h.2 with ⟨rfl, h0⟩ | ⟨g, cap, cur, rfl, hb, hg, _, _, _, _⟩
  · have : l = [] := List.eq_nil_of_length_eq_zero h0
    subst this
    exact ⟨none, 0, rfl, fun i hi => by simp at hi⟩
  · refine ⟨_, cap, rfl, fun i hi => ⟨g, 0, rfl, (Array.getElem?_eq_some_iff.1 hg).1, ?_, ?_⟩⟩
    · rw [Nat.zero_add, World.ownsRow.cellAt h _ (by omega)]
      exact (pcells_at l i hi).1
    · rw [Nat.zero_add, World.ownsRow.cellAt h _ (by omega)]
      exact (pcells_at l i hi).2

theorem pown_shape {w : World} {base : Nat} {v : Value} {l : List (ByteArray × ByteArray)} (h : POwn w base v l) : ∃ a cap, v = .slice a l.length cap := by
  obtain ⟨a, cap, hv, _⟩ := prd_of_pown h
  exact ⟨a, cap, hv⟩

theorem pown_frame {w w' : World} {b : Nat} {v : Value} {l : List (ByteArray × ByteArray)} (h : POwn w b v l) (hg : ∀ g, v.ownBlock = some g → w'.heap[g]? = w.heap[g]?) : POwn w' b v l := owns_frame h hg
theorem pown_lt {w : World} {b : Nat} {v : Value} {l : List (ByteArray × ByteArray)} (h : POwn w b v l) : ∀ g, v.ownBlock = some g → b ≤ g ∧ g < w.heap.size := World.ownsRow.lt h

theorem cells_two (w : World) (a b : Value) (e : TypeId) : ∀ j u, [a, b][j]? = some u → (w.alloc (.cells #[a, b] e)).cell? ((⟨w.heap.size, 0, none⟩ : Addr).add j) = some u := by
  intro j u hu
  have hadd : (⟨w.heap.size, 0, none⟩ : Addr).add j = ⟨w.heap.size, j, none⟩ := by unfold Addr.add; split <;> simp_all
  rw [hadd, cell_of_row _ _ j #[a, b] e (0, 0) (heap_alloc_new w _)]
  simpa using hu

/-- A pair that was just laid is appended to a row of the call's own: for a walk. -/
theorem wpList_push_pair {ops : Array Oper} {rest : List Oper} {o : Oper} {act : Act} {Q' : Exit → Act → World → Prop} (hgd : o.guard = none) (s x : Operand)
    (hop : o.op = .call { callee := .builtin .append, args := #[s, x], argTypes := #[71, 71] }) {W w0 wr : World} {B : Nat} {v1 : Value} {l1 : List (ByteArray × ByteArray)} (p : ByteArray × ByteArray) (L : Nat) (hL : wr.heap.size = L)
    (hs : act.eval s = v1) (hx : act.eval x = .slice (some ⟨L, 0, none⟩) 1 1) (ho : POwn w0 B v1 l1) (hw : Below w0.heap.size w0 wr) (hb : Below B W w0) (hB : B ≤ W.heap.size) (hlen : l1.length ≤ 1000000)
    (h : ∀ v' w', POwn w' B v' (l1 ++ [p]) → Below B W w' → wpList Tryz.prog ops Q' rest (act.put o.dst v') w') : wpList Tryz.prog ops Q' (o :: rest) act (wr.alloc (.cells #[.string p.1, .string p.2] 102)) := by
  subst hL
  obtain ⟨i0, hi, hz0, hz1, hz2⟩ := info_parts infoPair
  have hb1 : Below B W wr := hb.trans (hw.mono (Nat.le_trans hB hb.size))
  have hb2 : Below B W (wr.alloc (.cells #[.string p.1, .string p.2] 102)) := hb1.alloc (Nat.le_trans hB hb1.size) _
  have hBw : B ≤ (wr.alloc (.cells #[.string p.1, .string p.2] 102)).heap.size := Nat.le_trans hB hb2.size
  have ho2 : POwn (wr.alloc (.cells #[.string p.1, .string p.2] 102)) B v1 l1 := pown_frame ho (fun g hg => by
    rw [Below.heap_alloc _ _ _ (Nat.lt_of_lt_of_le (pown_lt ho g hg).2 hw.size)]
    exact hw.block g (pown_lt ho g hg).2)
  refine wpList_append_mine _ hgd s x 71 hop B 102 i0 _ 2 32 Tryz.underlying71 hi hz0 hz1 hz2 rfl (by decide) v1 l1.length (pcells l1) hs ho2 ⟨wr.heap.size, 0, none⟩ 1 1 [.string p.1, .string p.2] hx rfl (cells_two _ _ _ _) (by simp [Value.oneCell']) (by unfold maxLen; omega) (by omega) hBw ?_
  intro v' w' ho' hg _
  refine h v' w' ?_ (hb2.grown hg hBw (fun g hgg => (pown_lt ho g hgg).1))
  unfold POwn
  rw [List.length_append, pcells_snoc]
  exact ho'

/-- Those that begin with p, without it. -/
def behindB (p : ByteArray) (l : List (ByteArray × ByteArray)) : List (ByteArray × ByteArray) := l.filterMap fun x => if pre p x.1 then some (cutP p x.1, x.2) else none

theorem behindB_hit (p : ByteArray) (l : List (ByteArray × ByteArray)) (k : Nat) (h : k < l.length) (hp : pre p l[k].1 = true) : behindB p (l.take (k + 1)) = behindB p (l.take k) ++ [(cutP p l[k].1, l[k].2)] := by
  rw [List.take_succ_eq_append_getElem h]
  unfold behindB
  rw [List.filterMap_append]
  simp [hp]
theorem behindB_miss (p : ByteArray) (l : List (ByteArray × ByteArray)) (k : Nat) (h : k < l.length) (hp : pre p l[k].1 = false) : behindB p (l.take (k + 1)) = behindB p (l.take k) := by
  rw [List.take_succ_eq_append_getElem h]
  unfold behindB
  rw [List.filterMap_append]
  simp [hp]
theorem behindB_le (p : ByteArray) (l : List (ByteArray × ByteArray)) : (behindB p l).length ≤ l.length := List.length_filterMap_le _ _

set_option maxHeartbeats 1600000 in
theorem behindP_any (p : ByteArray) (a : Option Addr) (cap : Nat) (l : List (ByteArray × ByteArray)) (w : World) (hr : PRd w.heap.size w a l) (hl : l.length ≤ 1000000) : Calls Tryz.prog 67 #[.string p, .slice a l.length cap] w fun e w' => ∃ v, e = .returned v ∧ POwn w' w.heap.size v (behindB p l) ∧ Below w.heap.size w w' := by
  have HR := hid hr
  have HC := hid (fun s w => cutPrefix_any s p w)
  clear hr
  go_enter Tryz.func67, Tryz.ntmps67
  go_wp2_with fail
  go_loopw [5, 12] (fun v i wr => ∃ k : Nat, i = .int .i64 k ∧ k ≤ l.length ∧ Hid (POwn wr w.heap.size v (behindB p (l.take k)) ∧ Below w.heap.size w wr)) (fun _ i _ => l.length - (intOf i).toNat)
  case atStart => exact ⟨0, rfl, Nat.zero_le _, pown_nil _ _, Below.refl _ _⟩
  case round =>
    obtain ⟨k, rfl, hk, HH⟩ := hrel
    obtain ⟨av, cv, hv⟩ := pown_shape HH.out.1
    subst hv
    by_cases hlt : k < l.length
    · obtain ⟨b, off, rfl, hb, e0, e1⟩ := HR.out k hlt
      have f0 := (HH.out.2.cell (p := ⟨b, off + k * 2, none⟩) hb).trans e0
      have f1 := (HH.out.2.cell (p := ⟨b, off + k * 2 + 1, none⟩) hb).trans e1
      have i1 : (0 : Int) ≤ (k : Int) := by omega
      have i2 : (k : Int) < (l.length : Int) := by omega
      clear e0 e1
      cases hp : pre p l[k].1 with
      | true =>
        have HB := hid (behindB_hit p l k hlt hp)
        have HP := hid hp
        have HLE : Hid ((behindB p (l.take k)).length ≤ 1000000) := by
          have := behindB_le p (l.take k)
          rw [List.length_take] at this
          rw [Hid]; omega
        clear hp
        generalize behindB p (l.take k) = bk at *
        go_wp2_with fail
        refine (HC.out _ _).mono ?_
        rintro e w1 ⟨rfl, rfl⟩
        rw [HP.out]
        go_wp2_with (at_builtin; go_loud (refine wpList_push_pair rfl (.tmp 24) (.tmp 29) rfl (cutP p l[k].1, l[k].2) (wr.heap.size + 1) (alloc_size _ _) rfl rfl HH.out.1 ((Below.refl _ _).alloc (Nat.le_refl _) _) HH.out.2 (Nat.le_refl _) HLE.out ?_); intro v' w' ho' hb'; have HO' := hid ho'; have HB' := hid hb'; clear ho' hb')
        exact ⟨⟨k + 1, by go_num, by omega, by rw [HB.out]; exact HO'.out, HB'.out⟩, by simp [intOf]; omega⟩
      | false =>
        have HB := hid (behindB_miss p l k hlt hp)
        have HP := hid hp
        clear hp
        generalize behindB p (l.take k) = bk at *
        go_wp2_with fail
        refine (HC.out _ _).mono ?_
        rintro e w1 ⟨rfl, rfl⟩
        rw [HP.out]
        go_wp2_with fail
        exact ⟨⟨k + 1, by go_num, by omega, by rw [HB.out]; exact pown_frame HH.out.1 (fun g hg => Below.heap_alloc _ _ _ (pown_lt HH.out.1 g hg).2), HH.out.2.alloc HH.out.2.size _⟩, by simp [intOf]; omega⟩
    · have i2 : ¬ (k : Int) < (l.length : Int) := by omega
      have HK : Hid (behindB p (l.take k) = behindB p l) := by rw [Hid, List.take_of_length_le (by omega)]
      go_wp2_with fail
      go_ret
      exact ⟨_, rfl, by rw [← HK.out]; exact HH.out.1, HH.out.2⟩
end Go.Proofs.YtbmohenjphmlgabGreat

/- The walk of sharedStart (of the program). -/
namespace Go.Proofs.YtbmohenjphmlgabGreat
open Go.RowKit
set_option maxRecDepth 100000

def toEnt (p : ByteArray × ByteArray) : Tr.Ent := ⟨p.1.data.toList, p.2.data.toList⟩
def ents (l : List (ByteArray × ByteArray)) : List Tr.Ent := l.map toEnt

theorem behindB_ents (p : ByteArray) (l : List (ByteArray × ByteArray)) : ents (behindB p l) = Tr.behind p.data.toList (ents l) := by
  unfold ents behindB Tr.behind
  induction l with
  | nil => rfl
  | cons x l ih =>
    rw [List.filterMap_cons, List.map_cons, List.filterMap_cons]
    by_cases hp : pre p x.1
    · rw [if_pos hp]
      have hp' : p.data.toList.isPrefixOf (toEnt x).dig = true := hp
      rw [if_pos hp', List.map_cons, ih]
      congr 1
      unfold toEnt
      rw [cutP_list hp, ba_len]
    · rw [if_neg hp]
      have hp' : ¬ p.data.toList.isPrefixOf (toEnt x).dig = true := hp
      rw [if_neg hp']
      exact ih

theorem shrink_end {t d t0 : List UInt8} (h1 : t <+: t0) (h2 : Tr.lcp t0 d <+: t) (h3 : t <+: d) : t = Tr.lcp t0 d :=
  List.IsPrefix.eq_of_length_le (Tr.lcp_most _ _ _ h1 h3) h2.length_le

theorem shrink_step {t d t0 : List UInt8} (h1 : t <+: t0) (h2 : Tr.lcp t0 d <+: t) (h3 : ¬ t <+: d) : 0 < t.length ∧ t.take (t.length - 1) <+: t0 ∧ Tr.lcp t0 d <+: t.take (t.length - 1) := by
  have hne : Tr.lcp t0 d ≠ t := fun h => h3 (h ▸ Tr.lcp_right _ _)
  have hlt : (Tr.lcp t0 d).length < t.length := by
    rcases Nat.lt_or_ge (Tr.lcp t0 d).length t.length with h | h
    · exact h
    · exact absurd (List.IsPrefix.eq_of_length_le h2 h) hne
  refine ⟨by omega, (List.take_prefix _ _).trans h1, ?_⟩
  rw [List.prefix_take_iff]
  exact ⟨h2, by omega⟩

theorem take_ents (l : List (ByteArray × ByteArray)) (k : Nat) (h : k < l.length) (s : List UInt8) : Tr.sharedFrom s (ents (l.take (k + 1))) = Tr.lcp (Tr.sharedFrom s (ents (l.take k))) l[k].1.data.toList := by
  unfold ents Tr.sharedFrom
  rw [List.take_succ_eq_append_getElem h, List.map_append, List.foldl_append]
  rfl

set_option maxHeartbeats 1600000 in
theorem sharedStart_any (a : Option Addr) (cap : Nat) (l : List (ByteArray × ByteArray)) (w : World) (hr : PRd w.heap.size w a l) (hl : l.length ≤ 1000000) (h0 : 0 < l.length) (hz : ∀ x ∈ l, x.1.size ≤ 1000000) : Calls Tryz.prog 64 #[.slice a l.length cap] w fun e w' => ∃ t : ByteArray, e = .returned (.string t) ∧ t.data.toList = Tr.shared (ents l) ∧ Below w.heap.size w w' := by
  have HR := hid hr
  have HC := hid (fun s p w => hasPrefix_any s p w)
  obtain ⟨b0, off0, rfl, hb0, c0, c1⟩ := hr 0 h0
  rw [Nat.zero_mul, Nat.add_zero] at c0
  have HS : Hid (Tr.shared (ents l) = Tr.sharedFrom l[0].1.data.toList (ents l)) := by
    cases l with
    | nil => simp at h0
    | cons x l => rfl
  have HZ := hid hz
  clear hr c1 hz
  have hint : (0 : Int) < (l.length : Int) := by omega
  go_enter Tryz.func64, Tryz.ntmps64
  go_wp2_with fail
  go_loopw [3, 12] (fun v i wr => ∃ (k : Nat) (t : ByteArray), v = .string t ∧ i = .int .i64 k ∧ k ≤ l.length ∧ Hid (t.data.toList = Tr.sharedFrom l[0].1.data.toList (ents (l.take k)) ∧ t.size ≤ 1000000 ∧ Below w.heap.size w wr)) (fun _ i _ => l.length - (intOf i).toNat)
  case atStart => exact ⟨0, l[0].1, rfl, rfl, Nat.zero_le _, rfl, HZ.out _ (List.getElem_mem h0), Below.refl _ _⟩
  case round =>
    obtain ⟨k, t0, rfl, rfl, hk, HH⟩ := hrel
    by_cases hlt : k < l.length
    · obtain ⟨b, off, hbo, hb, e0, e1⟩ := HR.out k hlt
      simp only [Option.some.injEq, Addr.mk.injEq, and_true] at hbo
      obtain ⟨rfl, rfl⟩ := hbo
      have f0 := (HH.out.2.2.cell (p := ⟨b0, off0 + k * 2, none⟩) hb).trans e0
      have f1 := (HH.out.2.2.cell (p := ⟨b0, off0 + k * 2 + 1, none⟩) hb).trans e1
      have i1 : (0 : Int) ≤ (k : Int) := by omega
      have i2 : (k : Int) < (l.length : Int) := by omega
      have HT := hid (take_ents l k hlt l[0].1.data.toList)
      clear e0 e1 c0
      go_wp2_with fail
      go_loopw [3] (fun v wx => ∃ t : ByteArray, v = .string t ∧ t.size ≤ 1000000 ∧ Hid (t.data.toList <+: t0.data.toList ∧ Tr.lcp t0.data.toList l[k].1.data.toList <+: t.data.toList) ∧ wx = wr.alloc (.cells #[.string l[k].1, .string l[k].2] 102)) (fun v _ => strLen v)
      case atStart => exact ⟨t0, rfl, HH.out.2.1, ⟨List.prefix_refl _, Tr.lcp_left _ _⟩, rfl⟩
      case round =>
        obtain ⟨t, rfl, hts, HP, rfl⟩ := hrel
        go_wp2_with fail
        refine (HC.out _ _ _).mono ?_
        rintro e w1 ⟨rfl, rfl⟩
        cases hp : pre t l[k].1 with
        | true =>
          have HE : Hid (t.data.toList = Tr.lcp t0.data.toList l[k].1.data.toList) := shrink_end HP.out.1 HP.out.2 (by unfold pre at hp; exact List.isPrefixOf_iff_prefix.1 hp)
          clear hp
          go_wp2_with fail
          exact ⟨⟨k + 1, t, rfl, by go_num, by omega, by rw [HT.out, ← HH.out.1]; exact HE.out, hts, HH.out.2.2.alloc HH.out.2.2.size _⟩, by simp [intOf]; omega⟩
        | false =>
          have HE := hid (shrink_step HP.out.1 HP.out.2 (by unfold pre at hp; rw [← List.isPrefixOf_iff_prefix, hp]; decide))
          have hpos : 0 < t.size := by have := HE.out.1; rwa [ba_len] at this
          have j1 : (0 : Int) ≤ (t.size : Int) - 1 := by omega
          have j2 : (t.size : Int) - 1 ≤ (t.size : Int) := by omega
          clear hp
          go_wp2_with fail
          refine ⟨⟨_, rfl, ?_, ?_, trivial⟩, ?_⟩
          · rw [ByteArray.size_extract]; omega
          · rw [Hid, Lib.extract_data, List.drop_zero, Nat.sub_zero]
            have := HE.out.2
            rw [ba_len] at this
            exact this
          · show (t.extract 0 (t.size - 1)).size < t.size
            rw [ByteArray.size_extract]; omega
    · have i2 : ¬ (k : Int) < (l.length : Int) := by omega
      have HK : Hid (Tr.sharedFrom l[0].1.data.toList (ents (l.take k)) = Tr.sharedFrom l[0].1.data.toList (ents l)) := by rw [Hid, List.take_of_length_le (by omega)]
      go_wp2_with fail
      go_ret
      exact ⟨t0, rfl, by rw [HH.out.1, HK.out, HS.out], HH.out.2.2⟩
end Go.Proofs.YtbmohenjphmlgabGreat

/- Items as they lie in memory, to be read: whoever made them, in blocks below some number. -/
namespace Go.Proofs.YtbmohenjphmlgabGreat
open Go.RowKit
set_option maxRecDepth 100000

/-- v is the item t, as it reads in w; all its lists lie in blocks below B; at most n levels. -/
def Rep (B : Nat) (w : World) : Nat → Value → Itm → Prop
  | 0 => fun _ _ => False
  | n + 1 => fun v t => ∃ a cap, v = .agg #[.bool t.list, .string ⟨t.bytes.toArray⟩, .slice a t.items.length cap] ∧ t.items.length ≤ maxLen ∧
      ∀ i (h : i < t.items.length), ∃ b off c0 c1 c2, a = some ⟨b, off, none⟩ ∧ b < B ∧ w.cell? ⟨b, off + i * 3, none⟩ = some c0 ∧ w.cell? ⟨b, off + i * 3 + 1, none⟩ = some c1 ∧ w.cell? ⟨b, off + i * 3 + 2, none⟩ = some c2 ∧
        Rep B w n (.agg #[c0, c1, c2]) t.items[i]

theorem rep_frame {B : Nat} {w w' : World} (hb : Below B w w') : ∀ (n : Nat) (v : Value) (t : Itm), Rep B w n v t → Rep B w' n v t := by
  intro n
  induction n with
  | zero => intro v t h; exact h
  | succ n ih =>
    intro v t h
    obtain ⟨a, cap, hv, hm, h⟩ := h
    refine ⟨a, cap, hv, hm, fun i hi => ?_⟩
    obtain ⟨b, off, c0, c1, c2, ha, hlt, e0, e1, e2, hr⟩ := h i hi
    exact ⟨b, off, c0, c1, c2, ha, hlt, by rw [hb.cell hlt]; exact e0, by rw [hb.cell hlt]; exact e1, by rw [hb.cell hlt]; exact e2, ih _ _ hr⟩

theorem rep_wider {B B' : Nat} {w : World} (hB : B ≤ B') : ∀ (n : Nat) (v : Value) (t : Itm), Rep B w n v t → Rep B' w n v t := by
  intro n
  induction n with
  | zero => intro v t h; exact h
  | succ n ih =>
    intro v t h
    obtain ⟨a, cap, hv, hm, h⟩ := h
    refine ⟨a, cap, hv, hm, fun i hi => ?_⟩
    obtain ⟨b, off, c0, c1, c2, ha, hlt, e0, e1, e2, hr⟩ := h i hi
    exact ⟨b, off, c0, c1, c2, ha, by omega, e0, e1, e2, ih _ _ hr⟩

/-- The three cells of an item that is read. -/
theorem rep_shape {B : Nat} {w : World} {n : Nat} {c0 c1 c2 : Value} {t : Itm} (h : Rep B w n (.agg #[c0, c1, c2]) t) :
    ∃ a cap, c0 = .bool t.list ∧ c1 = .string ⟨t.bytes.toArray⟩ ∧ c2 = .slice a t.items.length cap := by
  cases n with
  | zero => exact h.elim
  | succ n =>
    obtain ⟨a, cap, hv, _⟩ := h
    simp at hv
    exact ⟨a, cap, hv.1, hv.2.1, hv.2.2⟩

/-- What is read in one world is read in a later one. -/
theorem rep_later {w w' : World} (hb : Below w.heap.size w w') {n : Nat} {v : Value} {t : Itm} (h : Rep w.heap.size w n v t) : Rep w'.heap.size w' n v t :=
  rep_wider hb.size n v t (rep_frame hb n v t h)

theorem tri_cells {w : World} {E base g cap n : Nat} {xs : List Value} (ho : w.ownsRow base E 3 (.slice (some ⟨g, 0, none⟩) n cap) n xs) (i : Nat) (hi : i < n) :
    w.cell? ⟨g, 0 + i * 3, none⟩ = some (xs.getD (3 * i) default) ∧ w.cell? ⟨g, 0 + i * 3 + 1, none⟩ = some (xs.getD (3 * i + 1) default) ∧ w.cell? ⟨g, 0 + i * 3 + 2, none⟩ = some (xs.getD (3 * i + 2) default) := by
  have hx := ho.1
  have key : ∀ j, j < n * 3 → w.cell? ⟨g, j, none⟩ = some (xs.getD j default) := by
    intro j hj
    rw [ho.cellAt j hj, List.getD_eq_getElem?_getD, List.getElem?_eq_getElem (by omega)]
    rfl
  exact ⟨by rw [Nat.zero_add, Nat.mul_comm i 3]; exact key _ (by omega), by rw [Nat.zero_add, Nat.mul_comm i 3]; exact key _ (by omega), by rw [Nat.zero_add, Nat.mul_comm i 3]; exact key _ (by omega)⟩

/-- What is owned can be read. -/
theorem rep_of_own {E : TypeId} {w : World} {B : Nat} : ∀ (n lo hi : Nat) (v : Value) (t : Itm), hi ≤ B → Own E w n lo hi v t → Rep B w n v t := by
  intro n
  induction n with
  | zero => intro lo hi v t _ h; exact h
  | succ n ih =>
    intro lo hi v t hB h
    obtain ⟨sl, hv, xs, ho, hg, L, H, hL, _⟩ := h
    rcases ho.2 with ⟨rfl, h0⟩ | ⟨g, cap, cur, rfl, _, _, hnc, hcm, _⟩
    · refine ⟨none, 0, by rw [hv, h0], by rw [h0]; exact Nat.zero_le _, fun i hi => ?_⟩
      omega
    · refine ⟨some ⟨g, 0, none⟩, cap, hv, Nat.le_trans hnc hcm, fun i hi => ?_⟩
      obtain ⟨q1, q2, q3, q4⟩ := hL i hi
      obtain ⟨e0, e1, e2⟩ := tri_cells ho i hi
      have hgl := hg g rfl
      exact ⟨g, 0, _, _, _, rfl, by omega, e0, e1, e2, ih (L i) (H i) _ _ (by omega) q4⟩

end Go.Proofs.YtbmohenjphmlgabGreat

/- The walk of 'depth': an item that lies in memory has the depth that 'deep' says. -/
namespace Go.Proofs.YtbmohenjphmlgabGreat
open Go.RowKit
set_option maxRecDepth 100000

/-- The greatest depth among the first k items. -/
def topTo (t : Itm) (k : Nat) : Nat := Itm.top ((t.items.take k).map Itm.deep)

theorem topTo_zero (t : Itm) : topTo t 0 = 0 := by simp [topTo, Itm.top_nil]

theorem topTo_succ (t : Itm) (k : Nat) (h : k < t.items.length) : topTo t (k + 1) = max (topTo t k) (Itm.deep t.items[k]) := by
  unfold topTo
  rw [List.take_succ_eq_append_getElem h, List.map_append, Itm.top_append]
  simp [Itm.top_cons, Itm.top_nil]

theorem topTo_all (t : Itm) (h : t.list = true) : Itm.deep t = topTo t t.items.length + 1 := by
  rw [Itm.deep_eq, if_pos h]
  simp [topTo]

theorem topTo_le (t : Itm) (k : Nat) (h : t.list = true) : topTo t k + 1 ≤ Itm.deep t := by
  rw [Itm.deep_eq, if_pos h]
  unfold topTo
  have : Itm.top ((t.items.take k).map Itm.deep) ≤ Itm.top (t.items.map Itm.deep) := by
    refine Itm.top_le fun x hx => Itm.le_top ?_
    simp only [List.mem_map] at hx ⊢
    obtain ⟨y, hy, rfl⟩ := hx
    exact ⟨y, List.mem_of_mem_take hy, rfl⟩
  omega

theorem deep_kid (t : Itm) (k : Nat) (hk : k < t.items.length) (h : t.list = true) : Itm.deep t.items[k] < Itm.deep t := by
  have h1 := topTo_le t (k + 1) h
  rw [topTo_succ t k hk] at h1
  omega

/-- An item that could be read in w can be read in any later world. -/
theorem rep_in {w w' : World} {n : Nat} {v : Value} {t : Itm} (h : Rep w.heap.size w n v t) (hb : Below w.heap.size w w') : Rep w'.heap.size w' n v t := rep_later hb h

set_option maxHeartbeats 800000 in
theorem depth_any (n : Nat) : ∀ (v : Value) (t : Itm) (w : World), Rep w.heap.size w n v t → Itm.deep t ≤ 1000000000 →
    Calls Tryz.prog 58 #[v] w fun e w' => e = .returned (.int .i64 (Itm.deep t)) ∧ Below w.heap.size w w' := by
  induction n with
  | zero => intro v t w h; exact h.elim
  | succ n ih =>
    intro v t w hrep hd
    obtain ⟨a, cap, rfl, hm, hkids⟩ := hrep
    by_cases hl : t.list
    · have hl' : t.list = true := hl
      have HK := hid hkids
      have IH := hid ih
      have HD := hid hd
      clear hkids ih hd hl
      unfold maxLen at hm
      have HL := hid hl'
      rw [hl']
      clear hl'
      go_enter Tryz.func58, Tryz.ntmps58
      go_wp2_with fail
      go_loopw [3, 12] (fun d i wr => ∃ k : Nat, k ≤ t.items.length ∧ i = .int .i64 k ∧ d = .int .i64 (topTo t k) ∧ Hid (Below w.heap.size w wr)) (fun _ i _ => t.items.length - (intOf i).toNat)
      case atStart => exact ⟨0, Nat.zero_le _, rfl, by rw [topTo_zero]; rfl, (Below.refl _ _).alloc (Nat.le_refl _) _⟩
      case round =>
        obtain ⟨k, hk, rfl, rfl, HB⟩ := hrel
        have htb : topTo t k + 1 ≤ 1000000000 := Nat.le_trans (topTo_le t k HL.out) HD.out
        by_cases hlt : k < t.items.length
        · obtain ⟨b, off, c0, c1, c2, rfl, hbl, e0, e1, e2, hr⟩ := HK.out k hlt
          obtain ⟨a2, cap2, rfl, rfl, rfl⟩ := rep_shape hr
          have f0 := (HB.out.cell (p := ⟨b, off + k * 3, none⟩) hbl).trans e0
          have f1 := (HB.out.cell (p := ⟨b, off + k * 3 + 1, none⟩) hbl).trans e1
          have f2 := (HB.out.cell (p := ⟨b, off + k * 3 + 2, none⟩) hbl).trans e2
          have HR := hid hr
          have hdk := deep_kid t k hlt HL.out
          have hdk2 : Itm.deep t.items[k] ≤ 1000000000 := by have := HD.out; omega
          have HT := hid (topTo_succ t k hlt)
          clear e0 e1 e2 hr hdk
          go_wp2_with fail
          have hbw := HB.out.alloc HB.out.size (Obj.cells #[Value.bool t.items[k].list, Value.string { data := t.items[k].bytes.toArray }, Value.slice a2 t.items[k].items.length cap2] 50)
          refine (IH.out _ t.items[k] _ (rep_in HR.out hbw) hdk2).mono ?_
          rintro e w1 ⟨rfl, hbel⟩
          have HB1 := hid hbel
          have HB0 := hid hbw
          clear hbel hbw
          go_wp2_with fail
          refine ⟨⟨k + 1, by omega, by go_num, congrArg (Value.int .i64) (by rw [HT.out]; omega), HB0.out.trans (HB1.out.mono HB0.out.size)⟩, by simp [intOf]; omega⟩
        · go_wp2_with fail
          go_ret
          refine ⟨?_, HB.out⟩
          have hke : k = t.items.length := by omega
          subst hke
          rw [topTo_all t HL.out]
          simp
    · have hl' : t.list = false := by simpa using hl
      rw [hl']
      have hd0 : Itm.deep t = 0 := by rw [Itm.deep_eq, hl']; rfl
      rw [hd0]
      clear ih hkids hd hd0 hl hl'
      go_enter Tryz.func58, Tryz.ntmps58
      go_wp2_with fail
      go_ret
      exact ⟨rfl, (Below.refl _ _).alloc (Nat.le_refl _) _⟩
end Go.Proofs.YtbmohenjphmlgabGreat

/- Lists of items that are read; hasStrayField; what the walk of wellFormed wants of its stack. -/
namespace Go.Proofs.YtbmohenjphmlgabGreat
open Go.RowKit
set_option maxRecDepth 100000

namespace Itm
/-- Has it a field that its kind does not use? -/
def stray (t : Itm) : Bool := if t.list then !t.bytes.isEmpty else decide (0 < t.items.length)

theorem pure_stray (t : Itm) : pure t = (!stray t && t.items.all pure) := by
  rw [pure_eq]
  unfold stray
  by_cases h : t.list
  · simp [h]
  · simp [h]
    congr 1
    cases t.items <;> simp

/-- How many items it is, itself among them. -/
def cnt : Itm → Nat
  | ⟨_, _, is⟩ => 1 + (is.attach.map fun ⟨x, _⟩ => cnt x).sum

theorem cnt_eq (t : Itm) : cnt t = 1 + (t.items.map cnt).sum := by
  obtain ⟨l, b, is⟩ := t
  simp [cnt]

def cntL (l : List Itm) : Nat := (l.map cnt).sum

theorem cnt_pos (t : Itm) : 0 < cnt t := by rw [cnt_eq]; omega

theorem cntL_cons (t : Itm) (l : List Itm) : cntL (t :: l) = cnt t + cntL l := by simp [cntL]

theorem cntL_len (l : List Itm) : l.length ≤ cntL l := by
  induction l with
  | nil => simp [cntL]
  | cons x l ih => rw [cntL_cons, List.length_cons]; have := cnt_pos x; omega

def cntS (ls : List (List Itm)) : Nat := (ls.map cntL).sum

theorem cntS_append (a b : List (List Itm)) : cntS (a ++ b) = cntS a + cntS b := by simp [cntS]

theorem cntS_one (l : List Itm) : cntS [l] = cntL l := by simp [cntS]

theorem cntS_len (ls : List (List Itm)) (h : ∀ l ∈ ls, l ≠ []) : ls.length ≤ cntS ls := by
  induction ls with
  | nil => simp [cntS]
  | cons l ls ih =>
    have h1 := ih (fun x hx => h x (by simp [hx]))
    have h2 := cntL_len l
    have h3 : 0 < l.length := List.length_pos_iff.2 (h l (by simp))
    have : cntS (l :: ls) = cntL l + cntS ls := by simp [cntS]
    rw [this, List.length_cons]; omega
end Itm

/-- A slice of items that can be read. -/
def RepL (B : Nat) (w : World) (n : Nat) (sl : Value) (l : List Itm) : Prop :=
  ∃ a cap, sl = .slice a l.length cap ∧ l.length ≤ maxLen ∧
    ∀ i (h : i < l.length), ∃ b off c0 c1 c2, a = some ⟨b, off, none⟩ ∧ b < B ∧ w.cell? ⟨b, off + i * 3, none⟩ = some c0 ∧ w.cell? ⟨b, off + i * 3 + 1, none⟩ = some c1 ∧ w.cell? ⟨b, off + i * 3 + 2, none⟩ = some c2 ∧
      Rep B w n (.agg #[c0, c1, c2]) l[i]

theorem rep_list {B : Nat} {w : World} {n : Nat} {v : Value} {t : Itm} (h : Rep B w (n + 1) v t) : ∃ sl, v = .agg #[.bool t.list, .string ⟨t.bytes.toArray⟩, sl] ∧ RepL B w n sl t.items := by
  obtain ⟨a, cap, hv, hm, hk⟩ := h
  exact ⟨_, hv, a, cap, rfl, hm, hk⟩

theorem rep_more {B : Nat} {w : World} : ∀ (n : Nat) (v : Value) (t : Itm), Rep B w n v t → Rep B w (n + 1) v t := by
  intro n
  induction n with
  | zero => intro v t h; exact h.elim
  | succ n ih =>
    intro v t h
    obtain ⟨a, cap, hv, hm, hk⟩ := h
    refine ⟨a, cap, hv, hm, fun i hi => ?_⟩
    obtain ⟨b, off, c0, c1, c2, ha, hlt, e0, e1, e2, hr⟩ := hk i hi
    exact ⟨b, off, c0, c1, c2, ha, hlt, e0, e1, e2, ih _ _ hr⟩

theorem repL_more {B : Nat} {w : World} {n : Nat} {sl : Value} {l : List Itm} (h : RepL B w n sl l) : RepL B w (n + 1) sl l := by
  obtain ⟨a, cap, hv, hm, hk⟩ := h
  refine ⟨a, cap, hv, hm, fun i hi => ?_⟩
  obtain ⟨b, off, c0, c1, c2, ha, hlt, e0, e1, e2, hr⟩ := hk i hi
  exact ⟨b, off, c0, c1, c2, ha, hlt, e0, e1, e2, rep_more _ _ _ hr⟩

theorem repL_frame {B : Nat} {w w' : World} {n : Nat} {sl : Value} {l : List Itm} (h : RepL B w n sl l) (hb : Below B w w') : RepL B w' n sl l := by
  obtain ⟨a, cap, hv, hm, hk⟩ := h
  refine ⟨a, cap, hv, hm, fun i hi => ?_⟩
  obtain ⟨b, off, c0, c1, c2, ha, hlt, e0, e1, e2, hr⟩ := hk i hi
  exact ⟨b, off, c0, c1, c2, ha, hlt, by rw [hb.cell hlt]; exact e0, by rw [hb.cell hlt]; exact e1, by rw [hb.cell hlt]; exact e2, rep_frame hb _ _ _ hr⟩

set_option maxHeartbeats 400000 in
theorem stray_any (t : Itm) (w : World) (a : Option Addr) (cap : Nat) :
    Calls Tryz.prog 79 #[.agg #[.bool t.list, .string ⟨t.bytes.toArray⟩, .slice a t.items.length cap]] w fun e w' => e = .returned (.bool (Itm.stray t)) ∧ Below w.heap.size w w' := by
  by_cases hl : t.list
  · have HS := hid (show Itm.stray t = !t.bytes.isEmpty by unfold Itm.stray; rw [if_pos hl])
    have hl' : t.list = true := hl
    rw [hl']
    clear hl hl'
    go_enter Tryz.func79, Tryz.ntmps79
    go_wp2_with fail
    go_ret
    exact ⟨by rw [HS.out]; simp, (Below.refl _ _).alloc (Nat.le_refl _) _⟩
  · have HS := hid (show Itm.stray t = decide (0 < t.items.length) by unfold Itm.stray; rw [if_neg hl])
    have hl' : t.list = false := by simpa using hl
    rw [hl']
    clear hl hl'
    go_enter Tryz.func79, Tryz.ntmps79
    go_wp2_with fail
    go_ret
    exact ⟨by rw [HS.out]; simp, (Below.refl _ _).alloc (Nat.le_refl _) _⟩

theorem infoItems : (Tryz.prog.info? 48).map (fun i => (i.zero, i.size, i.bytes)) = some (some (.slice none 0 0), 1, 24) := by kernel_rfl

/-- The stack of wellFormed: lists of items, none of them empty. -/
def Stk (w : World) (B n : Nat) (v : Value) (ls : List (List Itm)) : Prop :=
  ∃ xs : List Value, w.ownsRow B 48 1 v ls.length xs ∧ ∀ i (h : i < ls.length), RepL B w n (xs.getD i default) ls[i]

theorem stk_shape {w : World} {B n : Nat} {v : Value} {ls : List (List Itm)} (h : Stk w B n v ls) : ∃ a cap, v = .slice a ls.length cap := by
  obtain ⟨xs, ho, _⟩ := h
  rcases ho.2 with ⟨rfl, h0⟩ | ⟨g, cap, cur, hv, _⟩
  · exact ⟨none, 0, by rw [h0]⟩
  · exact ⟨_, _, hv⟩

/-- The stack stays while nothing of its own, nor below B, is written. -/
theorem stk_frame {w w' : World} {B n : Nat} {v : Value} {ls : List (List Itm)} (h : Stk w B n v ls) (hb : Below w.heap.size w w') (hB : B ≤ w.heap.size) : Stk w' B n v ls := by
  obtain ⟨xs, ho, hr⟩ := h
  refine ⟨xs, owns_frame ho (fun g hg => hb.block g (ho.lt g hg).2), fun i hi => repL_frame (hr i hi) (hb.mono hB)⟩

/-- The stack without its last, which lies there still. -/
theorem stk_pop {w : World} {B n g cap m : Nat} {ls : List (List Itm)} {l : List Itm} (h : Stk w B n (.slice (some ⟨g, 0, none⟩) (ls.length + 1) cap) (ls ++ [l])) (hm : m = ls.length) :
    Stk w B n (.slice (some ⟨g, 0, none⟩) m cap) ls ∧ ∃ sl, w.cell? ⟨g, m, none⟩ = some sl ∧ RepL B w n sl l := by
  subst hm
  obtain ⟨xs, ho, hr⟩ := h
  have hlen : (ls ++ [l]).length = ls.length + 1 := by simp
  rw [hlen] at ho
  have hx := ho.1
  constructor
  · refine ⟨xs.take ls.length, ?_, ?_⟩
    · rcases ho.2 with ⟨h', _⟩ | ⟨g', cap', cur, h', hb, hg, hnc, hcm, hcs, ht⟩
      · simp at h'
      · simp only [Value.slice.injEq, Option.some.injEq, Addr.mk.injEq, and_true, true_and] at h'
        obtain ⟨rfl, rfl⟩ := h'
        refine ⟨by simp; omega, .inr ⟨g, cap, cur, rfl, hb, hg, by omega, hcm, hcs, ?_⟩⟩
        rw [← ht, List.take_take]
        congr 1
        omega
    · intro i hi
      have := hr i (by simp; omega)
      rw [List.getElem_append_left hi] at this
      have e : (xs.take ls.length).getD i default = xs.getD i default := by
        simp only [List.getD_eq_getElem?_getD]
        rw [List.getElem?_take, if_pos hi]
      rw [e]; exact this
  · have h1 := hr ls.length (by simp)
    rw [List.getElem_append_right (Nat.le_refl _)] at h1
    simp only [Nat.sub_self, List.getElem_cons_zero] at h1
    refine ⟨_, ?_, h1⟩
    rw [ho.cellAt ls.length (by omega), List.getD_eq_getElem?_getD, List.getElem?_eq_getElem (by omega)]
    rfl

/-- One list more on the stack, behind an append: for a walk. -/
theorem wpList_append_stack {ops : Array Oper} {rest : List Oper} {o : Oper} {act : Act} {Q : Exit → Act → World → Prop} (hgd : o.guard = none) (s x : Operand)
    (hop : o.op = .call { callee := .builtin .append, args := #[s, x], argTypes := #[130, 130] })
    {w : World} {B n : Nat} {v sl : Value} {ls : List (List Itm)} {l : List Itm} (hs : act.eval s = v) (hx : act.eval x = .slice (some ⟨w.heap.size, 0, none⟩) 1 1)
    (hstk : Stk w B n v ls) (hl : RepL B w n sl l) (hB : B ≤ w.heap.size) (hn : ls.length ≤ 1000000000)
    (h : ∀ v' w', Stk w' B n v' (ls ++ [l]) → Below B w w' → wpList Tryz.prog ops Q rest (act.put o.dst v') w') :
    wpList Tryz.prog ops Q (o :: rest) act (w.alloc (.cells #[sl] 48)) := by
  obtain ⟨i0, hi, hz0, hz1, hz2⟩ := info_parts infoItems
  obtain ⟨xs, ho, hr⟩ := hstk
  have hb1 : Below w.heap.size w (w.alloc (.cells #[sl] 48)) := (Below.refl _ _).alloc (Nat.le_refl _) _
  refine wpList_append_mine _ hgd s x 130 hop B 48 i0 _ 1 24 Tryz.underlying130 hi hz0 hz1 hz2 rfl (by decide) v ls.length xs hs (owns_frame ho (fun g hg => hb1.block g (ho.lt g hg).2)) ⟨w.heap.size, 0, none⟩ 1 1 [sl] hx rfl ?_ ?_ ?_ ?_ ?_ ?_
  · intro j u hu
    cases j with
    | zero =>
      simp only [List.getElem?_cons_zero, Option.some.injEq] at hu
      subst hu
      have : (⟨w.heap.size, 0, none⟩ : Addr).add 0 = ⟨w.heap.size, 0, none⟩ := by simp [Addr.add]
      rw [this, cell_of_row _ _ 0 #[sl] _ (0, 0) (heap_alloc_new w _)]
      rfl
    | succ j => simp at hu
  · intro u hu
    simp only [List.mem_singleton] at hu
    subst hu
    obtain ⟨a, cap, rfl, _⟩ := hl
    rfl
  · unfold maxLen; omega
  · omega
  · simp; omega
  · intro v' w' ho2 hgr hnew
    have hb2 : Below B w w' := ((hb1.mono hB)).grown hgr (by simp; omega) (fun k hk => (ho.lt k hk).1)
    refine h v' w' ⟨xs ++ [sl], by simpa using ho2, ?_⟩ hb2
    intro i hi'
    have hxl := ho.1
    by_cases he : i < ls.length
    · rw [List.getElem_append_left he]
      have e : (xs ++ [sl]).getD i default = xs.getD i default := by
        simp only [List.getD_eq_getElem?_getD]
        rw [List.getElem?_append_left (by omega)]
      rw [e]
      exact repL_frame (hr i he) hb2
    · have he2 : i = ls.length := by simp at hi'; omega
      subst he2
      rw [List.getElem_append_right (Nat.le_refl _)]
      simp only [Nat.sub_self, List.getElem_cons_zero]
      have e : (xs ++ [sl]).getD ls.length default = sl := by
        simp only [List.getD_eq_getElem?_getD]
        rw [List.getElem?_append_right (by omega), hxl]
        simp
      rw [e]
      exact repL_frame hl hb2
end Go.Proofs.YtbmohenjphmlgabGreat
