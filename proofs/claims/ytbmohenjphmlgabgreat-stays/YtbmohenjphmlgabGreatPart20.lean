/- Part 20 of a proof: what the last text needs. -/
import Derived.Test.YtbmohenjphmlgabGreatPart19
import Derived.Test.YtbmohenjphmlgabGreatPart13
import Derived.Test.YtbmohenjphmlgabGreatPart14
import Derived.Test.YtbmohenjphmlgabGreatPart8
/- The walks of sum, with, few, meet and proofs (of the statements). -/
namespace Go.Proofs.YtbmohenjphmlgabGreat
open Go.RowKit
set_option maxRecDepth 100000

set_option maxHeartbeats 1600000 in
theorem sumK_any (s : ByteArray) (w : World) (hs : s.size ≤ 1000000000) : Calls Tryz.prog 29 #[.string s] w fun e w' => e = .returned (.int .u64 (Tr.fnv s.data.toList)) ∧ w' = w := by
  go_enter Tryz.func29, Tryz.ntmps29
  go_wp2_with fail
  go_loopw [3, 4] (fun h i wr => ∃ k : Nat, h = .int .u64 (Tr.fnv (s.data.toList.take k)) ∧ i = .int .i64 k ∧ k ≤ s.size ∧ wr = w) (fun _ i _ => s.size - (intOf i).toNat)
  case atStart => exact ⟨0, by rw [List.take_zero, Tr.fnv_nil]; simp, rfl, Nat.zero_le _, rfl⟩
  case round =>
    obtain ⟨k, rfl, rfl, hk, rfl⟩ := hrel
    by_cases hlt : k < s.size
    · have i1 : (0 : Int) ≤ (k : Int) := by omega
      have i2 : (k : Int) < (s.size : Int) := by omega
      have HF := hid (step_val (Tr.fnv (s.data.toList.take k)) s[k] (Tr.fnv_lt _))
      have HS := hid (fnv_snoc s k hlt)
      go_wp2_with fail
      exact ⟨⟨k + 1, by rw [HF.out, HS.out], by go_num, by omega, trivial⟩, by simp [intOf]; omega⟩
    · have i2 : ¬ (k : Int) < (s.size : Int) := by omega
      have HK : Hid (Tr.fnv (s.data.toList.take k) = Tr.fnv s.data.toList) := by rw [Hid, List.take_of_length_le (by rw [ba_len]; omega)]
      rw [HK.out]
      go_wp2_with fail
      go_ret
      exact ⟨rfl, rfl⟩

/-- Texts with one more, if it is not there. -/
def withB (l : List ByteArray) (s : ByteArray) : List ByteArray := if ∃ x ∈ l, x = s then l else l ++ [s]

theorem withB_len (l : List ByteArray) (s : ByteArray) : (withB l s).length ≤ l.length + 1 := by
  unfold withB
  split
  · omega
  · simp

/-- What append gives: where the row lies. -/
theorem wpList_push_texts {ops : Array Oper} {rest : List Oper} {o : Oper} {act : Act} {Q' : Exit → Act → World → Prop} (hgd : o.guard = none) (s x : Operand)
    (hop : o.op = .call { callee := .builtin .append, args := #[s, x], argTypes := #[23, 23] }) {wr : World} {B : Nat} {v1 : Value} {l1 : List ByteArray} (p : ByteArray) (L : Nat) (hL : wr.heap.size = L)
    (hs : act.eval s = v1) (hx : act.eval x = .slice (some ⟨L, 0, none⟩) 1 1) (ho : TOwn wr B v1 l1) (hB : B ≤ wr.heap.size) (hlen : l1.length ≤ 1000000)
    (h : ∀ v' w', TOwn w' B v' (l1 ++ [p]) → Below B wr w' → (∀ k, k < wr.heap.size → v1.ownBlock ≠ some k → w'.heap[k]? = wr.heap[k]?) → (∀ b, v'.ownBlock = some b → v1.ownBlock = some b ∨ wr.heap.size ≤ b) → wpList Tryz.prog ops Q' rest (act.put o.dst v') w') : wpList Tryz.prog ops Q' (o :: rest) act (wr.alloc (.cells #[.string p] 9)) := by
  subst hL
  obtain ⟨i0, hi, hz0, hz1, hz2⟩ := info_parts infoText
  have hb2 : Below B wr (wr.alloc (.cells #[.string p] 9)) := (Below.refl _ _).alloc hB _
  have hBw : B ≤ (wr.alloc (.cells #[.string p] 9)).heap.size := Nat.le_trans hB hb2.size
  have ho2 : TOwn (wr.alloc (.cells #[.string p] 9)) B v1 l1 := town_frame ho (fun g hg => Below.heap_alloc _ _ _ (town_lt ho g hg).2)
  refine wpList_append_mine _ hgd s x 23 hop B 9 i0 _ 1 16 Tryz.underlying23 hi hz0 hz1 hz2 rfl (by decide) v1 l1.length (tcells l1) hs ho2 ⟨wr.heap.size, 0, none⟩ 1 1 [.string p] hx rfl (cells_lone _ _ _) (by simp [Value.oneCell']) (by unfold maxLen; omega) (by omega) hBw ?_
  intro v' w' ho' hg hn
  refine h v' w' ?_ (hb2.grown hg hBw (fun g hgg => (town_lt ho g hgg).1)) (fun k hk hne => (hg.block k (by rw [alloc_size]; omega) (fun e => hne e.symm)).trans (Below.heap_alloc _ _ _ hk)) ?_
  · unfold TOwn
    rw [List.length_append, tcells_snoc]
    exact ho'
  · intro b hb'
    rcases hn with e | ⟨g, e, hle⟩
    · left; rw [← e]; exact hb'
    · right; rw [e] at hb'; cases hb'; rw [alloc_size] at hle; omega

/-- What with does. -/
def WithOk (B : Nat) (w : World) (v : Value) (l : List ByteArray) (s : ByteArray) (e : Ending) (w' : World) : Prop :=
  ∃ v', e = .returned v' ∧ TOwn w' B v' (withB l s) ∧ Below B w w' ∧ (∀ k, k < w.heap.size → v.ownBlock ≠ some k → w'.heap[k]? = w.heap[k]?) ∧ (∀ b, v'.ownBlock = some b → v.ownBlock = some b ∨ w.heap.size ≤ b)

set_option maxHeartbeats 1600000 in
theorem with_any (B : Nat) (v : Value) (l : List ByteArray) (s : ByteArray) (w : World) (ho : TOwn w B v l) (hB : B ≤ w.heap.size) (hl : l.length ≤ 1000000) : Calls Tryz.prog 28 #[v, .string s] w (WithOk B w v l s) := by
  obtain ⟨a, cap, rfl, hcap⟩ := town_shape ho
  have HO := hid ho
  have HR := hid (town_rd ho)
  clear ho
  go_enter Tryz.func28, Tryz.ntmps28
  go_wp2_with fail
  go_loopw [5] (fun i wr => ∃ k : Nat, i = .int .i64 k ∧ k ≤ l.length ∧ (∀ x ∈ l.take k, x ≠ s) ∧ wr = w) (fun i _ => l.length - (intOf i).toNat)
  case atStart => exact ⟨0, rfl, Nat.zero_le _, fun x hx => by simp at hx, rfl⟩
  case round =>
    obtain ⟨k, rfl, hk, hno, rfl⟩ := hrel
    have HNO := hid hno
    clear hno
    by_cases hlt : k < l.length
    · obtain ⟨b, off, rfl, hb, e0⟩ := HR.out k hlt
      have i1 : (0 : Int) ≤ (k : Int) := by omega
      have i2 : (k : Int) < (l.length : Int) := by omega
      by_cases hq : l[k] = s
      · have hW : withB l s = l := by unfold withB; rw [if_pos ⟨l[k], List.getElem_mem hlt, hq⟩]
        have HW := hid hW
        clear hW
        rw [hq] at e0
        clear hq
        go_wp2_with fail
        go_ret
        exact ⟨_, rfl, by rw [HW.out]; exact HO.out, Below.refl _ _, fun _ _ _ => rfl, fun b hb => .inl hb⟩
      · have hne := bytes_neq hq
        have HQ := hid hq
        clear hq
        have HTK : Hid (l.take (k + 1) = l.take k ++ [l[k]]) := List.take_succ_eq_append_getElem hlt
        generalize l[k] = x at *
        go_wp2_with fail
        refine ⟨⟨k + 1, by go_num, by omega, ?_, trivial⟩, by simp [intOf]; omega⟩
        rw [HTK.out]
        intro y hy
        rcases List.mem_append.1 hy with h | h
        · exact HNO.out y h
        · rw [List.mem_singleton.1 h]; exact HQ.out
    · obtain rfl : k = l.length := by omega
      have i2 : ¬ (l.length : Int) < (l.length : Int) := by omega
      rw [List.take_length] at HNO
      have HW : Hid (withB l s = l ++ [s]) := by rw [Hid]; unfold withB; rw [if_neg (fun h => by obtain ⟨x, hx, hs⟩ := h; exact HNO.out x hx hs)]
      clear hlt
      go_wp2_with (at_builtin; refine wpList_push_texts rfl (.tmp 19) (.tmp 21) rfl s wr.heap.size rfl rfl rfl HO.out hB hl ?_; intro v' w' ho' hb' hk' hn'; have HO' := hid ho'; have HB' := hid hb'; have HK' := hid (And.intro hk' hn'); clear ho' hb' hk' hn')
      obtain ⟨a', c', rfl, _⟩ := town_shape HO'.out
      go_ret
      exact ⟨_, rfl, by rw [HW.out]; exact HO'.out, HB'.out, HK'.out.1, HK'.out.2⟩

theorem few_any (a : Option Addr) (cap n : Nat) (l : List ByteArray) (w : World) (hn : n ≤ 1000) (hl : l.length ≤ cap) : Calls Tryz.prog 10 #[.slice a l.length cap, .int .i64 n] w fun e w' => e = .returned (.slice a (l.take n).length cap) ∧ w' = w := by
  by_cases h : n < l.length
  · have h' : (n : Int) < (l.length : Int) := by omega
    have j1 : (n : Int) ≤ (cap : Int) := by omega
    have e1 : (l.take n).length = n := by rw [List.length_take]; omega
    rw [e1]
    go_enter Tryz.func10, Tryz.ntmps10
    go_wp2_with fail
    go_ret
    exact ⟨by simp, rfl⟩
  · have h' : ¬ (n : Int) < (l.length : Int) := by omega
    have e1 : (l.take n).length = l.length := by rw [List.length_take]; omega
    rw [e1]
    go_enter Tryz.func10, Tryz.ntmps10
    go_wp2_with fail
    go_ret
    exact ⟨rfl, rfl⟩

/-- Two elements that are not the same have the same sum. -/
def Meets (l : List ByteArray) : Prop := ∃ i k, k < i ∧ ∃ (hi : i < l.length) (hk : k < l.length), Tr.fnv l[i].data.toList = Tr.fnv l[k].data.toList ∧ l[i] ≠ l[k]

theorem fnv_of_sum {a b : List UInt8} : Tr.sum a = Tr.sum b ↔ Tr.fnv a = Tr.fnv b := ⟨Tr.sum_fnv, fun h => by rw [Tr.sum_eq, Tr.sum_eq, h]⟩

theorem not_meets {l : List ByteArray} (h : ¬ Meets l) : ∀ a ∈ l, ∀ b ∈ l, Tr.sum a.data.toList = Tr.sum b.data.toList → a = b := by
  intro a ha b hb hs
  obtain ⟨i, hi, rfl⟩ := List.getElem_of_mem ha
  obtain ⟨k, hk, rfl⟩ := List.getElem_of_mem hb
  have hf := fnv_of_sum.1 hs
  rcases Nat.lt_trichotomy i k with h1 | h1 | h1
  · refine Decidable.byContradiction fun hne => h ⟨k, i, h1, hk, hi, hf.symm, fun e => hne e.symm⟩
  · subst h1; rfl
  · exact Decidable.byContradiction fun hne => h ⟨i, k, h1, hi, hk, hf, hne⟩
end Go.Proofs.YtbmohenjphmlgabGreat

/- The walks of meet and proofs (of the statements). -/
namespace Go.Proofs.YtbmohenjphmlgabGreat
open Go.RowKit
set_option maxRecDepth 100000

/-- The elements i and k of some are not the same, but have the same sum. -/
def MeetAt (l : List ByteArray) (i k : Nat) : Prop := ∃ (hi : i < l.length) (hk : k < l.length), Tr.fnv l[i].data.toList = Tr.fnv l[k].data.toList ∧ l[i] ≠ l[k]

theorem meets_of {l : List ByteArray} (h : ∀ i k, k < i → ¬ MeetAt l i k) : ¬ Meets l := by
  rintro ⟨i, k, hki, hi, hk, h1, h2⟩
  exact h i k hki ⟨hi, hk, h1, h2⟩

theorem belowQ {B n : Nat} {a w : World} (h : Below B a w) : Below B a (w.drewN n) := ⟨h.os, h.tape, h.output, h.size, h.block⟩

/-- What meet tells. -/
def MeetOk (l : List ByteArray) (w : World) (e : Ending) (w' : World) : Prop := ∃ b, e = .returned (.bool b) ∧ (b = false → ¬ Meets l) ∧ Below w.heap.size w w'

set_option maxHeartbeats 3200000 in
theorem meet_any (a : Option Addr) (cap : Nat) (l : List ByteArray) (w : World) (hr : SRd w.heap.size w a l) (hl : l.length ≤ 1000000) (hz : ∀ s ∈ l, s.size ≤ 1000000000) :
    Calls Tryz.prog 12 #[.slice a l.length cap] w (MeetOk l w) := by
  have HR := hid hr
  have HZ := hid hz
  have HS := hid (fun s w h => sumK_any s w h)
  clear hr hz
  go_enter Tryz.func12, Tryz.ntmps12
  go_wp2_with fail
  go_loopw [3] (fun i wr => ∃ m : Nat, i = .int .i64 m ∧ m ≤ l.length ∧ Hid ((∀ i k, i < m → k < i → ¬ MeetAt l i k) ∧ Below w.heap.size w wr)) (fun i _ => l.length - (intOf i).toNat)
  case atStart => exact ⟨0, rfl, Nat.zero_le _, fun i k h => by omega, Below.refl _ _⟩
  case round =>
    obtain ⟨m, rfl, hm, HH⟩ := hrel
    by_cases hlt : m < l.length
    · have i1 : (0 : Int) ≤ (m : Int) := by omega
      have i2 : (m : Int) < (l.length : Int) := by omega
      go_wp2_with fail
      go_loopw [4] (fun i wx => ∃ k : Nat, i = .int .i64 k ∧ k ≤ m ∧ Hid ((∀ j, j < k → ¬ MeetAt l m j) ∧ Below w.heap.size w wx)) (fun i _ => m - (intOf i).toNat)
      case atStart => exact ⟨0, rfl, Nat.zero_le _, fun j h => by omega, HH.out.2⟩
      case round =>
        obtain ⟨k, rfl, hk, HK⟩ := hrel
        by_cases hkm : k < m
        · have j1 : (0 : Int) ≤ (k : Int) := by omega
          have j2 : (k : Int) < (m : Int) := by omega
          have j3 : (k : Int) < (l.length : Int) := by omega
          have hkl : k < l.length := by omega
          obtain ⟨b, off, rfl, hb, e0⟩ := HR.out m hlt
          obtain ⟨b', off', hbo, hb', e1⟩ := HR.out k hkl
          cases hbo
          have HSM := hid (fun w => HS.out l[m] w (HZ.out _ (List.getElem_mem hlt)))
          have HSK := hid (fun w => HS.out l[k] w (HZ.out _ (List.getElem_mem hkl)))
          have f0 := (HK.out.2.cell (p := ⟨b, off + m, none⟩) hb).trans e0
          have f1 := (HK.out.2.cell (p := ⟨b, off + k, none⟩) hb).trans e1
          have g0 := fun q => (belowQ (n := q) HK.out.2).cell (p := ⟨b, off + m, none⟩) hb |>.trans e0
          have g1 := fun q => (belowQ (n := q) HK.out.2).cell (p := ⟨b, off + k, none⟩) hb |>.trans e1
          have HMA : Hid (MeetAt l m k ↔ Tr.fnv l[m].data.toList = Tr.fnv l[k].data.toList ∧ l[m] ≠ l[k]) := ⟨fun ⟨_, _, h⟩ => h, fun h => ⟨hlt, hkl, h⟩⟩
          clear e0 e1
          generalize l[m] = xm at *
          generalize l[k] = xk at *
          go_wp2_with fail
          refine (HSM.out _).mono ?_
          rintro e w1 ⟨rfl, hw1⟩
          obtain rfl := hw1.symm
          clear hw1
          go_wp2_with fail
          refine (HSK.out _).mono ?_
          rintro e w2 ⟨rfl, hw2⟩
          obtain rfl := hw2.symm
          clear hw2
          by_cases hfn : Tr.fnv xm.data.toList = Tr.fnv xk.data.toList
          · have hq1 : ((Tr.fnv xm.data.toList : Int) == (Tr.fnv xk.data.toList : Int)) = true := by rw [hfn]; exact beq_self_eq_true _
            by_cases hxx : xm = xk
            · have HNM : Hid (¬ MeetAt l m k) := fun h => (HMA.out.1 h).2 hxx
              have hq2 : (xm.toList == xk.toList) = true := by rw [hxx]; exact beq_self_eq_true _
              rw [hfn] at *
              clear HMA
              go_wp2_with fail
              go_quiet (fail)
              go_wp2_with fail
              refine ⟨⟨k + 1, by go_num, by omega, fun j hj => ?_, belowQ HK.out.2⟩, by simp [intOf]; omega⟩
              by_cases h : j = k
              · subst h; exact HNM.out
              · exact HK.out.1 j (by omega)
            · have hq2 := bytes_neq hxx
              clear HMA hxx
              rw [hfn] at *
              go_wp2_with fail
              go_quiet (fail)
              go_wp2_with fail
              go_ret
              exact ⟨true, rfl, (fun h => by cases h), belowQ HK.out.2⟩
          · have hq1 : ¬ (Tr.fnv xm.data.toList : Int) = (Tr.fnv xk.data.toList : Int) := by omega
            have HNM : Hid (¬ MeetAt l m k) := fun h => hfn (HMA.out.1 h).1
            clear HMA hfn
            go_wp2_with fail
            go_quiet (fail)
            go_wp2_with fail
            refine ⟨⟨k + 1, by go_num, by omega, fun j hj => ?_, belowQ HK.out.2⟩, by simp [intOf]; omega⟩
            by_cases h : j = k
            · subst h; exact HNM.out
            · exact HK.out.1 j (by omega)
        · obtain rfl : k = m := by omega
          have j2 : ¬ (k : Int) < (k : Int) := by omega
          clear hkm
          go_wp2_with fail
          refine ⟨⟨k + 1, by go_num, by omega, fun i j hi hj => ?_, HK.out.2⟩, by simp [intOf]; omega⟩
          by_cases h : i = k
          · subst h; exact HK.out.1 j hj
          · exact HH.out.1 i j (by omega) hj
    · obtain rfl : m = l.length := by omega
      have i2 : ¬ (l.length : Int) < (l.length : Int) := by omega
      clear hlt
      go_wp2_with fail
      go_ret
      refine ⟨false, rfl, fun _ => meets_of (fun i k hki hma => ?_), HH.out.2⟩
      exact HH.out.1 i k hma.1 hki hma

/-- All elements of the proofs of a table for some keys. -/
def allB (l : List (ByteArray × ByteArray)) (keys : List ByteArray) : List ByteArray := keys.foldl (fun A k => (proofB l (shortB k 6)).foldl withB A) []

theorem allB_snoc (l : List (ByteArray × ByteArray)) (keys : List ByteArray) (k : ByteArray) : allB l (keys ++ [k]) = (proofB l (shortB k 6)).foldl withB (allB l keys) := by
  unfold allB
  rw [List.foldl_append]
  rfl

theorem withs_len (p : List ByteArray) : ∀ A : List ByteArray, (p.foldl withB A).length ≤ A.length + p.length := by
  induction p with
  | nil => intro A; exact Nat.le_refl _
  | cons s p ih =>
    intro A
    have := ih (withB A s)
    have := withB_len A s
    rw [List.foldl_cons, List.length_cons]
    omega

theorem allB_len {l : List (ByteArray × ByteArray)} (hf : Fine l) (keys : List ByteArray) : (allB l keys).length ≤ 14 * keys.length := by
  unfold allB
  have : ∀ (ks : List ByteArray) (A : List ByteArray), (ks.foldl (fun A k => (proofB l (shortB k 6)).foldl withB A) A).length ≤ A.length + 14 * ks.length := by
    intro ks
    induction ks with
    | nil => intro A; exact Nat.le_refl _
    | cons k ks ih =>
      intro A
      have h1 := ih ((proofB l (shortB k 6)).foldl withB A)
      have h2 := withs_len (proofB l (shortB k 6)) A
      have h3 := proofB_len hf (shortB k 6)
      rw [List.foldl_cons, List.length_cons]
      omega
  have := this keys []
  simpa using this

theorem srd_row {w : World} {B : Nat} {a : Option Addr} {n cap : Nat} {l : List ByteArray} (h : TOwn w B (.slice a n cap) l) : ∀ i, (hi : i < l.length) → ∃ g, a = some ⟨g, 0, none⟩ ∧ B ≤ g ∧ g < w.heap.size ∧ w.cell? ⟨g, i, none⟩ = some (.string l[i]) := by
  intro i hi
  rcases h.2 with ⟨_, h0⟩ | ⟨g, cap', cur, hv, hbg, hg, _⟩
  · omega
  · have hlt := (Array.getElem?_eq_some_iff.1 hg).1
    simp only [Value.slice.injEq] at hv
    obtain ⟨rfl, _, _⟩ := hv
    have hc := World.ownsRow.cells (g := g) h rfl
    have a0 : ((⟨g, 0, none⟩ : Addr).add i) = ⟨g, i, none⟩ := by unfold Addr.add; split <;> simp_all
    exact ⟨g, rfl, hbg, hlt, a0 ▸ hc _ _ (tcells_at l i hi)⟩

set_option maxHeartbeats 3200000 in
theorem proofs_any (a : Option Addr) (cap : Nat) (l : List (ByteArray × ByteArray)) (ka : Option Addr) (kcap : Nat) (keys : List ByteArray) (w : World) (hr : PRd w.heap.size w a l) (hf : Fine l) (hk : SRd w.heap.size w ka keys) (hkl : keys.length ≤ 1000) :
    Calls Tryz.prog 11 #[.slice a l.length cap, .slice ka keys.length kcap] w fun e w' => ∃ v, e = .returned v ∧ TOwn w' w.heap.size v (allB l keys) ∧ Below w.heap.size w w' := by
  have HR := hid hr
  have HF := hid hf
  have HK := hid hk
  have HSH := hid (fun s w => shortG_any s 6 w (by decide))
  have HPR := hid (fun key w (hr : PRd w.heap.size w a l) (hk : key.size ≤ 6) => prove_fine a cap l key w hr hf hk)
  clear hr hf hk
  go_enter Tryz.func11, Tryz.ntmps11
  go_wp2_with fail
  go_loopw [5, 6] (fun v i wr => ∃ m : Nat, i = .int .i64 m ∧ m ≤ keys.length ∧ Hid (TOwn wr w.heap.size v (allB l (keys.take m)) ∧ Below w.heap.size w wr)) (fun _ i _ => keys.length - (intOf i).toNat)
  case atStart => exact ⟨0, rfl, Nat.zero_le _, town_nil _ _, Below.refl _ _⟩
  case round =>
    obtain ⟨m, rfl, hm, HH⟩ := hrel
    obtain ⟨va, vc, rfl, _⟩ := town_shape HH.out.1
    by_cases hlt : m < keys.length
    · obtain ⟨b, off, rfl, hb, e0⟩ := HK.out m hlt
      have f0 := (HH.out.2.cell (p := ⟨b, off + m, none⟩) hb).trans e0
      have i1 : (0 : Int) ≤ (m : Int) := by omega
      have i2 : (m : Int) < (keys.length : Int) := by omega
      have HTK : Hid (allB l (keys.take (m + 1)) = (proofB l (shortB keys[m] 6)).foldl withB (allB l (keys.take m))) := by rw [Hid, List.take_succ_eq_append_getElem hlt, allB_snoc]
      have HLA : Hid ((allB l (keys.take m)).length ≤ 14000) := by
        have h1 := allB_len HF.out (keys.take m)
        have h2 : (keys.take m).length ≤ 1000 := by rw [List.length_take]; omega
        rw [Hid]; omega
      have HPL : Hid ((proofB l (shortB keys[m] 6)).length ≤ 14) := proofB_len HF.out _
      have HSZ : Hid ((shortB keys[m] 6).size ≤ 6) := shortB_size _ _
      generalize keys[m] = km at *
      generalize allB l (keys.take m) = A at *
      clear e0
      go_wp2_with fail
      refine (HSH.out _ _).mono ?_
      rintro e w1 ⟨rfl, hw1⟩
      obtain rfl := hw1.symm
      clear hw1
      go_wp2_with fail
      refine (HPR.out _ _ ((HR.out.later HH.out.2).wider HH.out.2.size) HSZ.out).mono ?_
      rintro e w2 ⟨r, rfl, ho2, b2⟩
      obtain ⟨pa, pc, rfl, _⟩ := town_shape ho2
      have HO2 := hid ho2
      have HB2 : Hid (Below w.heap.size w w2) := HH.out.2.trans (b2.mono HH.out.2.size)
      have HA2 : Hid (TOwn w2 w.heap.size (.slice va A.length vc) A) := town_later HH.out.1 b2
      have HNE : Hid (∀ g, (Value.slice va A.length vc).ownBlock = some g → (Value.slice pa (proofB l (shortB km 6)).length pc).ownBlock ≠ some g) := fun g hg hq => by
        have := (town_lt HH.out.1 g hg).2
        have := (town_lt ho2 g hq).1
        omega
      have HWR : Hid (w.heap.size ≤ w2.heap.size) := HB2.out.size
      clear ho2 b2
      generalize proofB l (shortB km 6) = P at *
      have hP14 : P.length ≤ 14 := HPL.out
      go_wp2_with fail
      go_loopw [5, 9] (fun v i wx => ∃ j : Nat, i = .int .i64 j ∧ j ≤ P.length ∧ Hid (TOwn wx w.heap.size v ((P.take j).foldl withB A) ∧ Below w.heap.size w wx ∧ TOwn wx w.heap.size (.slice pa P.length pc) P ∧ (∀ g, v.ownBlock = some g → (Value.slice pa P.length pc).ownBlock ≠ some g))) (fun _ i _ => P.length - (intOf i).toNat)
      case atStart => exact ⟨0, rfl, Nat.zero_le _, HA2.out, HB2.out, town_low HO2.out HH.out.2.size, HNE.out⟩
      case round =>
        obtain ⟨j, rfl, hj, HJ⟩ := hrel
        obtain ⟨xa, xc, hx, _⟩ := town_shape HJ.out.1
        subst hx
        by_cases hjl : j < P.length
        · obtain ⟨g, rfl, hgB, hgl, g0⟩ := srd_row HJ.out.2.2.1 j hjl
          have j1 : (0 : Int) ≤ (j : Int) := by omega
          have j2 : (j : Int) < (P.length : Int) := by omega
          have HTJ : Hid ((P.take (j + 1)).foldl withB A = withB ((P.take j).foldl withB A) P[j]) := by rw [Hid, List.take_succ_eq_append_getElem hjl, List.foldl_append]; rfl
          have HLJ : Hid (((P.take j).foldl withB A).length ≤ 1000000) := by
            have h1 := withs_len (P.take j) A
            have h2 : (P.take j).length ≤ 14 := by rw [List.length_take]; have := HPL.out; omega
            have := HLA.out
            rw [Hid]; omega
          have HWI := hid (with_any w.heap.size _ _ P[j] _ HJ.out.1 HJ.out.2.1.size HLJ.out)
          generalize P[j] = pj at *
          generalize (P.take j).foldl withB A = X at *
          go_wp2_with fail
          refine HWI.out.mono ?_
          rintro e w3 ⟨v3, rfl, ho3, b3, k3, n3⟩
          have HO3 := hid ho3
          have HB3 : Hid (Below w.heap.size w w3) := HJ.out.2.1.trans b3
          have HP3 : Hid (TOwn w3 w.heap.size (.slice (some ⟨g, 0, none⟩) P.length pc) P) := town_frame HJ.out.2.2.1 (fun q hq => k3 q (town_lt HJ.out.2.2.1 q hq).2 (fun e => HJ.out.2.2.2 q e hq))
          have HN3 : Hid (∀ q, v3.ownBlock = some q → (Value.slice (some ⟨g, 0, none⟩) P.length pc).ownBlock ≠ some q) := fun q hq hq' => by
            rcases n3 q hq with h | h
            · exact HJ.out.2.2.2 q h hq'
            · have := (town_lt HJ.out.2.2.1 q hq').2; omega
          clear ho3 b3 k3 n3
          obtain ⟨ya, yc, hy, _⟩ := town_shape HO3.out
          subst hy
          go_wp2_with fail
          refine ⟨⟨j + 1, by go_num, by omega, by rw [HTJ.out]; exact HO3.out, HB3.out, HP3.out, HN3.out⟩, by simp [intOf]; omega⟩
        · obtain rfl : j = P.length := by omega
          have j2 : ¬ (P.length : Int) < (P.length : Int) := by omega
          rw [List.take_length] at HJ
          rw [List.take_length]
          rw [← HTK.out] at HJ
          rw [← HTK.out]
          clear hjl
          go_wp2_with fail
          exact ⟨⟨m + 1, by go_num, by omega, HJ.out.1, HJ.out.2.1⟩, by simp [intOf]; omega⟩
    · obtain rfl : m = keys.length := by omega
      have i2 : ¬ (keys.length : Int) < (keys.length : Int) := by omega
      rw [List.take_length] at HH
      rw [List.take_length]
      clear hlt
      go_wp2_with fail
      go_ret
      exact ⟨_, rfl, HH.out.1, HH.out.2⟩
end Go.Proofs.YtbmohenjphmlgabGreat

/- The walks of the comparison of heights (of the program). -/
namespace Go.Proofs.YtbmohenjphmlgabGreat
open Go.RowKit
set_option maxRecDepth 100000

theorem isNaN_any (x : Int) (w : World) : Calls Tryz.prog 98 #[.int .i64 x] w fun e w' => e = .returned (.bool false) ∧ w' = w := by
  go_enter Tryz.func98, Tryz.ntmps98
  go_wp2_with fail
  go_ret
  exact ⟨by simp, rfl⟩

/-- How two numbers compare. -/
def cmpI (a b : Int) : Int := if a < b then -1 else if b < a then 1 else 0

theorem compare_any (a b : Int) (w : World) : Calls Tryz.prog 70 #[.int .i64 a, .int .i64 b] w fun e w' => e = .returned (.int .i64 (cmpI a b)) ∧ w' = w := by
  have HN := hid (fun x w => isNaN_any x w)
  unfold cmpI
  by_cases h1 : a < b
  · rw [if_pos h1]
    go_enter Tryz.func70, Tryz.ntmps70
    go_wp2_with fail
    refine (HN.out _ _).mono ?_
    rintro e w1 ⟨rfl, rfl⟩
    go_wp2_with fail
    refine (HN.out _ _).mono ?_
    rintro e w1 ⟨rfl, rfl⟩
    go_wp2_with fail
    go_ret
    exact ⟨rfl, rfl⟩
  · rw [if_neg h1]
    by_cases h2 : b < a
    · rw [if_pos h2]
      go_enter Tryz.func70, Tryz.ntmps70
      go_wp2_with fail
      refine (HN.out _ _).mono ?_
      rintro e w1 ⟨rfl, rfl⟩
      go_wp2_with fail
      refine (HN.out _ _).mono ?_
      rintro e w1 ⟨rfl, rfl⟩
      go_wp2_with fail
      go_ret
      exact ⟨rfl, rfl⟩
    · rw [if_neg h2]
      go_enter Tryz.func70, Tryz.ntmps70
      go_wp2_with fail
      refine (HN.out _ _).mono ?_
      rintro e w1 ⟨rfl, rfl⟩
      go_wp2_with fail
      refine (HN.out _ _).mono ?_
      rintro e w1 ⟨rfl, rfl⟩
      go_wp2_with fail
      go_ret
      exact ⟨rfl, rfl⟩

/-- The comparison that the search is handed. -/
theorem place1_any (h : Int) (r : ByteArray) (x : Int) (w : World) : Calls Tryz.prog 69 #[.agg #[.int .i64 h, .string r], .int .i64 x] w fun e w' => e = .returned (.int .i64 (cmpI h x)) ∧ Below w.heap.size w w' := by
  have HC := hid (fun a b w => compare_any a b w)
  go_enter Tryz.func69, Tryz.ntmps69
  go_wp2_with fail
  refine (HC.out _ _ _).mono ?_
  rintro e w1 ⟨rfl, rfl⟩
  go_wp2_with fail
  go_ret
  exact ⟨rfl, (Below.refl _ _).alloc (Nat.le_refl _) _⟩

end Go.Proofs.YtbmohenjphmlgabGreat

/- The walk of the search for a height among heads (of the program). -/
namespace Go.Proofs.YtbmohenjphmlgabGreat
open Go.RowKit
set_option maxRecDepth 100000

/-- Heads in a row: height and root of each, in blocks below B. -/
def HRd (B : Nat) (w : World) (a : Option Addr) (l : List (Int × ByteArray)) : Prop :=
  ∀ i, (h : i < l.length) → ∃ b off, a = some ⟨b, off, none⟩ ∧ b < B ∧ w.cell? ⟨b, off + i * 2, none⟩ = some (.int .i64 l[i].1) ∧ w.cell? ⟨b, off + i * 2 + 1, none⟩ = some (.string l[i].2)

theorem HRd.later {B : Nat} {w w' : World} {a : Option Addr} {l : List (Int × ByteArray)} (h : HRd B w a l) (hb : Below B w w') : HRd B w' a l := by
  intro i hi
  obtain ⟨b, off, rfl, hlt, c0, c1⟩ := h i hi
  exact ⟨b, off, rfl, hlt, (hb.cell (p := ⟨b, off + i * 2, none⟩) hlt).trans c0, (hb.cell (p := ⟨b, off + i * 2 + 1, none⟩) hlt).trans c1⟩

/-- Heights rise. -/
def Rises (l : List (Int × ByteArray)) : Prop := l.Pairwise fun a b => a.1 < b.1

theorem Rises.at {l : List (Int × ByteArray)} (h : Rises l) {i j : Nat} (hij : i < j) (hj : j < l.length) : l[i].1 < l[j].1 := List.pairwise_iff_getElem.1 h i j (by omega) hj hij

theorem mid_nat (i j : Nat) : ((i : Int) + j) / 2 = (((i + j) / 2 : Nat) : Int) := by omega

/-- Where the search ends. -/
theorem search_end {l : List (Int × ByteArray)} {x : Int} {i j : Nat} {w wr : World} (hij : i ≤ j) (hlt : ¬ i < j) (hj : j ≤ l.length) (h1 : ∀ k, (h : k < l.length) → k < i → l[k].1 < x) (h2 : ∀ k, (h : k < l.length) → j ≤ k → x ≤ l[k].1) (h3 : Below w.heap.size w wr) {b : Bool} (hb : b = decide (∃ h : i < l.length, l[i].1 = x)) :
    (∃ p : Nat, Ending.returned (.tuple #[.int .i64 i, .bool b]) = .returned (.tuple #[.int .i64 p, .bool (decide (∃ h : p < l.length, l[p].1 = x))]) ∧ p ≤ l.length ∧ (∀ i, (h : i < l.length) → i < p → l[i].1 < x) ∧ (∀ i, (h : i < l.length) → p ≤ i → x ≤ l[i].1)) ∧ Below w.heap.size w wr :=
  ⟨⟨i, by rw [hb], by omega, h1, fun k hk hik => h2 k hk (by omega)⟩, h3⟩

theorem search_up {l : List (Int × ByteArray)} {x : Int} {m : Nat} (hs : Rises l) (hm : m < l.length) (h : l[m].1 < x) : ∀ k, (hk : k < l.length) → k < m + 1 → l[k].1 < x := by
  intro k hk hlt
  by_cases e : k = m
  · subst e; exact h
  · have := hs.at (i := k) (j := m) (by omega) hm
    omega

theorem search_down {l : List (Int × ByteArray)} {x : Int} {m : Nat} (hs : Rises l) (hm : m < l.length) (h : x ≤ l[m].1) : ∀ k, (hk : k < l.length) → m ≤ k → x ≤ l[k].1 := by
  intro k hk hle
  by_cases e : k = m
  · subst e; exact h
  · have := hs.at (i := m) (j := k) (by omega) hk
    omega

set_option maxHeartbeats 1600000 in
theorem search_any (a : Option Addr) (cap : Nat) (l : List (Int × ByteArray)) (x : Int) (w : World) (hr : HRd w.heap.size w a l) (hl : l.length ≤ 1000) (hs : Rises l) :
    Calls Tryz.prog 68 #[.slice a l.length cap, .int .i64 x, .func (.func 69) #[] #[]] w
      fun e w' => (∃ p : Nat, e = .returned (.tuple #[.int .i64 p, .bool (decide (∃ h : p < l.length, l[p].1 = x))]) ∧ p ≤ l.length ∧ (∀ i, (h : i < l.length) → i < p → l[i].1 < x) ∧ (∀ i, (h : i < l.length) → p ≤ i → x ≤ l[i].1)) ∧ Below w.heap.size w w' := by
  have HR := hid hr
  have HC := hid (fun h r x w => place1_any h r x w)
  have HS := hid hs
  clear hr hs
  go_enter Tryz.func68, Tryz.ntmps68
  go_wp2_with fail
  go_loopw [9, 10] (fun u v wr => ∃ i j : Nat, u = .int .i64 i ∧ v = .int .i64 j ∧ i ≤ j ∧ j ≤ l.length ∧ Hid ((∀ k, (h : k < l.length) → k < i → l[k].1 < x) ∧ (∀ k, (h : k < l.length) → j ≤ k → x ≤ l[k].1) ∧ Below w.heap.size w wr)) (fun u v _ => (intOf v).toNat - (intOf u).toNat)
  case atStart => exact ⟨0, l.length, rfl, rfl, Nat.zero_le _, Nat.le_refl _, fun k _ h => by omega, fun k h1 h2 => by omega, Below.refl _ _⟩
  case round =>
    obtain ⟨i, j, rfl, rfl, hij, hj, HH⟩ := hrel
    by_cases hlt : i < j
    · have i1 : (i : Int) < (j : Int) := by omega
      have hm : (i + j) / 2 < l.length := by omega
      obtain ⟨b, off, rfl, hb, e0, e1⟩ := HR.out ((i + j) / 2) hm
      obtain ⟨hv, hhv⟩ : ∃ v, v = l[(i + j) / 2].1 := ⟨_, rfl⟩
      obtain ⟨rv, hrv⟩ : ∃ v, v = l[(i + j) / 2].2 := ⟨_, rfl⟩
      have HV : Hid (hv = l[(i + j) / 2].1) := hhv
      have f0 : wr.cell? ⟨b, off + (i + j) / 2 * 2, none⟩ = some (.int .i64 hv) := by
        rw [hhv]
        exact (HH.out.2.2.cell (p := ⟨b, off + (i + j) / 2 * 2, none⟩) hb).trans e0
      have f1 : wr.cell? ⟨b, off + (i + j) / 2 * 2 + 1, none⟩ = some (.string rv) := by
        rw [hrv]
        exact (HH.out.2.2.cell (p := ⟨b, off + (i + j) / 2 * 2 + 1, none⟩) hb).trans e1
      clear hhv hrv
      have j1 : (0 : Int) ≤ ((i : Int) + j) / 2 := by omega
      have j2 : ((i : Int) + j) / 2 < (l.length : Int) := by omega
      clear e0 e1
      go_wp2_with fail
      refine (HC.out _ _ _ _).mono ?_
      rintro e w1 ⟨rfl, b1⟩
      have HB1 : Hid (Below w.heap.size w w1) := HH.out.2.2.trans (b1.mono HH.out.2.2.size)
      clear b1
      unfold cmpI
      by_cases hc : hv < x
      · rw [if_pos hc]
        go_wp2_with fail
        refine ⟨⟨(i + j) / 2 + 1, j, by rw [mid_nat]; rfl, rfl, by omega, hj, search_up HS.out hm (by rw [← HV.out]; exact hc), HH.out.2.1, HB1.out⟩, ?_⟩
        rw [mid_nat]
        show ((j : Int)).toNat - ((((i + j) / 2 : Nat) : Int) + 1).toNat < ((j : Int)).toNat - ((i : Int)).toNat
        omega
      · rw [if_neg hc]
        have hend : (∃ i_1 j_1 : Nat, Value.int .i64 i = .int .i64 i_1 ∧ Value.int .i64 (((i : Int) + j) / 2) = .int .i64 j_1 ∧ i_1 ≤ j_1 ∧ j_1 ≤ l.length ∧ Hid ((∀ k, (h : k < l.length) → k < i_1 → l[k].1 < x) ∧ (∀ k, (h : k < l.length) → j_1 ≤ k → x ≤ l[k].1) ∧ Below w.heap.size w w1)) ∧ (intOf (.int .i64 (((i : Int) + j) / 2))).toNat - (intOf (.int .i64 i)).toNat < (intOf (.int .i64 j)).toNat - (intOf (.int .i64 i)).toNat := by
          refine ⟨⟨i, (i + j) / 2, rfl, by rw [mid_nat], by omega, by omega, HH.out.1, search_down HS.out hm (by rw [← HV.out]; omega), HB1.out⟩, ?_⟩
          rw [mid_nat]
          show ((((i + j) / 2 : Nat) : Int)).toNat - ((i : Int)).toNat < ((j : Int)).toNat - ((i : Int)).toNat
          omega
        have HE := hid hend
        clear hend
        by_cases hc2 : x < hv
        · rw [if_pos hc2]
          go_wp2_with fail
          exact HE.out
        · rw [if_neg hc2]
          go_wp2_with fail
          exact HE.out
    · have i1 : ¬ (i : Int) < (j : Int) := by omega
      by_cases hn : i < l.length
      · obtain ⟨b, off, rfl, hb, e0, e1⟩ := HR.out i hn
        have f0 := (HH.out.2.2.cell (p := ⟨b, off + i * 2, none⟩) hb).trans e0
        have f1 := (HH.out.2.2.cell (p := ⟨b, off + i * 2 + 1, none⟩) hb).trans e1
        have j1 : (0 : Int) ≤ (i : Int) := by omega
        have j2 : (i : Int) < (l.length : Int) := by omega
        clear e0 e1
        go_wp2_with fail
        refine (HC.out _ _ _ _).mono ?_
        rintro e w1 ⟨rfl, b1⟩
        go_wp2_with fail
        go_ret2
        exact search_end hij hlt hj HH.out.1 HH.out.2.1 (HH.out.2.2.trans (b1.mono HH.out.2.2.size)) (by
          unfold cmpI
          by_cases h1 : l[i].1 < x
          · rw [if_pos h1]; simp [hn]; omega
          · rw [if_neg h1]
            by_cases h2 : x < l[i].1
            · rw [if_pos h2]; simp [hn]; omega
            · rw [if_neg h2]; simp [hn]; omega)
      · have i2 : ¬ (i : Int) < (l.length : Int) := by omega
        go_wp2_with fail
        go_ret2
        exact search_end hij hlt hj HH.out.1 HH.out.2.1 HH.out.2.2 (by simp [hn])

theorem place_any (kb : Nat) (a : Option Addr) (cap : Nat) (l : List (Int × ByteArray)) (y : Value) (x : Int) (w : World) (hk : w.heap[kb]? = some (.cells #[.slice a l.length cap, y] 77 (0, 0))) (hr : HRd w.heap.size w a l) (hl : l.length ≤ 1000) (hs : Rises l) :
    Calls Tryz.prog 44 #[.pointer (some ⟨kb, 0, none⟩), .int .i64 x] w
      fun e w' => (∃ p : Nat, e = .returned (.tuple #[.int .i64 p, .bool (decide (∃ h : p < l.length, l[p].1 = x))]) ∧ p ≤ l.length ∧ (∀ i, (h : i < l.length) → i < p → l[i].1 < x) ∧ (∀ i, (h : i < l.length) → p ≤ i → x ≤ l[i].1)) ∧ Below w.heap.size w w' := by
  have HS := hid (search_any a cap l x w hr hl hs)
  have c0 := cell_of_row _ _ 0 _ _ _ hk
  clear hr hs hk
  go_enter Tryz.func44, Tryz.ntmps44
  go_wp2_with fail
  refine HS.out.mono ?_
  rintro e w1 ⟨⟨p, rfl, h1, h2, h3⟩, b1⟩
  go_wp2_with fail
  go_ret2
  exact ⟨⟨p, rfl, h1, h2, h3⟩, b1⟩

end Go.Proofs.YtbmohenjphmlgabGreat

/- What a keeper has in memory; Open; the calls of Trust that change nothing (of the program). -/
namespace Go.Proofs.YtbmohenjphmlgabGreat
open Go.RowKit
set_option maxRecDepth 100000

/-- Only blocks of 'own' have turned. -/
structure Turns (own : Nat → Prop) (w w' : World) : Prop where
  os : w'.os = w.os
  tape : w'.tape = w.tape
  output : w'.output = w.output
  size : w.heap.size ≤ w'.heap.size
  block : ∀ k, k < w.heap.size → ¬ own k → w'.heap[k]? = w.heap[k]?

theorem Turns.refl (own : Nat → Prop) (w : World) : Turns own w w := ⟨rfl, rfl, rfl, Nat.le_refl _, fun _ _ _ => rfl⟩
theorem Turns.of_below {own : Nat → Prop} {w w' : World} (h : Below w.heap.size w w') : Turns own w w' := ⟨h.os, h.tape, h.output, h.size, fun k hk _ => h.block k hk⟩
theorem Turns.trans {own : Nat → Prop} {a b c : World} (h : Turns own a b) (k : Turns own b c) : Turns own a c :=
  ⟨k.os.trans h.os, k.tape.trans h.tape, k.output.trans h.output, Nat.le_trans h.size k.size, fun i hi ho => (k.block i (Nat.lt_of_lt_of_le hi h.size) ho).trans (h.block i hi ho)⟩
theorem Turns.wider {own own' : Nat → Prop} {w w' : World} (h : Turns own w w') (ho : ∀ k, k < w.heap.size → own k → own' k) : Turns own' w w' := ⟨h.os, h.tape, h.output, h.size, fun k hk hn => h.block k hk fun x => hn (ho k hk x)⟩
theorem Turns.below {own : Nat → Prop} {W w w' : World} {B : Nat} (h : Turns own w w') (hb : Below B W w) (hB : B ≤ w.heap.size) (ho : ∀ k, own k → B ≤ k) : Below B W w' :=
  hb.trans ⟨h.os, h.tape, h.output, h.size, fun k hk => h.block k (by omega) fun x => by have := ho k x; omega⟩

/-- Heads in a row of its own. -/
def hcells (l : List (Int × ByteArray)) : List Value := l.flatMap fun p => [.int .i64 p.1, .string p.2]
theorem hcells_len (l : List (Int × ByteArray)) : (hcells l).length = l.length * 2 := by
  induction l with
  | nil => rfl
  | cons x l ih =>
    have e : hcells (x :: l) = .int .i64 x.1 :: .string x.2 :: hcells l := rfl
    rw [e]; simp only [List.length_cons, ih]; omega
theorem hcells_at (l : List (Int × ByteArray)) (i : Nat) (h : i < l.length) : (hcells l)[i * 2]? = some (.int .i64 l[i].1) ∧ (hcells l)[i * 2 + 1]? = some (.string l[i].2) := by
  induction l generalizing i with
  | nil => simp at h
  | cons x l ih =>
    cases i with
    | zero => exact ⟨rfl, rfl⟩
    | succ i =>
      have := ih i (by simpa using h)
      have e : hcells (x :: l) = .int .i64 x.1 :: .string x.2 :: hcells l := rfl
      rw [e, show (i + 1) * 2 = i * 2 + 1 + 1 by omega, show i * 2 + 1 + 1 + 1 = (i * 2 + 1) + 1 + 1 by omega]
      simpa using this

def HOwn (w : World) (base : Nat) (v : Value) (l : List (Int × ByteArray)) : Prop := w.ownsRow base 58 2 v l.length (hcells l)

theorem hown_nil (w : World) (base : Nat) : HOwn w base (.slice none 0 0) [] := World.ownsRow_nil _ _ _ _

theorem hown_shape {w : World} {base : Nat} {v : Value} {l : List (Int × ByteArray)} (h : HOwn w base v l) : ∃ a cap, v = .slice a l.length cap := by
  rcases h.2 with ⟨rfl, h0⟩ | ⟨g, cap, cur, rfl, _⟩
  · exact ⟨none, 0, by rw [h0]⟩
  · exact ⟨_, cap, rfl⟩

theorem hown_lt {w : World} {b : Nat} {v : Value} {l : List (Int × ByteArray)} (h : HOwn w b v l) : ∀ g, v.ownBlock = some g → b ≤ g ∧ g < w.heap.size := World.ownsRow.lt h

theorem hown_frame {w w' : World} {b : Nat} {v : Value} {l : List (Int × ByteArray)} (h : HOwn w b v l) (hg : ∀ g, v.ownBlock = some g → w'.heap[g]? = w.heap[g]?) : HOwn w' b v l := owns_frame h hg

theorem hown_later {w w' : World} {b : Nat} {v : Value} {l : List (Int × ByteArray)} (h : HOwn w b v l) (hb : Below w.heap.size w w') : HOwn w' b v l := hown_frame h fun g hg => hb.block g (hown_lt h g hg).2

theorem hown_rd {w : World} {b : Nat} {a : Option Addr} {n cap : Nat} {l : List (Int × ByteArray)} (h : HOwn w b (.slice a n cap) l) : HRd w.heap.size w a l := by
  intro i hi
  rcases h.2 with ⟨_, h0⟩ | ⟨g, cap', cur, hv, hbg, hg, _⟩
  · omega
  · have hlt := (Array.getElem?_eq_some_iff.1 hg).1
    simp only [Value.slice.injEq] at hv
    obtain ⟨rfl, _, _⟩ := hv
    have hc := World.ownsRow.cells (g := g) h rfl
    have e := hcells_at l i hi
    have a0 : ((⟨g, 0, none⟩ : Addr).add (i * 2)) = ⟨g, 0 + i * 2, none⟩ := by unfold Addr.add; split <;> simp_all
    have a1 : ((⟨g, 0, none⟩ : Addr).add (i * 2 + 1)) = ⟨g, 0 + i * 2 + 1, none⟩ := by unfold Addr.add; split <;> simp_all <;> omega
    exact ⟨g, 0, rfl, hlt, a0 ▸ hc _ _ e.1, a1 ▸ hc _ _ e.2⟩

/-- A keeper's blocks: it, what is within, its heads, its store, the store's map. -/
structure Kb (w : World) (k0 k1 k2 k3 : Nat) (hv : Value) (M : Obj) : Prop where
  outer : w.heap[k0]? = some (.cells #[.pointer (some ⟨k1, 0, none⟩)] 63 (0, 0))
  inner : w.heap[k1]? = some (.cells #[hv, .pointer (some ⟨k2, 0, none⟩)] 77 (0, 0))
  store : w.heap[k2]? = some (.cells #[.map (some k3)] 118 (0, 0))
  map : w.heap[k3]? = some M

theorem Kb.later {w w' : World} {k0 k1 k2 k3 : Nat} {hv : Value} {M : Obj} (h : Kb w k0 k1 k2 k3 hv M) (hb : Below w.heap.size w w') : Kb w' k0 k1 k2 k3 hv M :=
  ⟨(hb.block _ (Array.getElem?_eq_some_iff.1 h.outer).1).trans h.outer, (hb.block _ (Array.getElem?_eq_some_iff.1 h.inner).1).trans h.inner, (hb.block _ (Array.getElem?_eq_some_iff.1 h.store).1).trans h.store, (hb.block _ (Array.getElem?_eq_some_iff.1 h.map).1).trans h.map⟩

theorem newStore_any (w : World) : Calls Tryz.prog 42 #[] w fun e w' => e = .returned (.pointer (some ⟨w.heap.size + 1, 0, none⟩)) ∧ w' = (w.alloc (.map #[] 0)).alloc (.cells #[.map (some w.heap.size)] 118) := by
  have hmm := @run_makeMap Tryz.prog
  go_enter Tryz.func42, Tryz.ntmps42
  go_wp2_with fail
  go_ret
  exact ⟨by simp, rfl⟩

/-- Three blocks laid one behind the other. -/
theorem laid3 (w : World) (A B C : Obj) : ((((w.alloc A).alloc B).alloc C).heap[w.heap.size]? = some A ∧ (((w.alloc A).alloc B).alloc C).heap[w.heap.size + 1]? = some B ∧ (((w.alloc A).alloc B).alloc C).heap[w.heap.size + 2]? = some C) ∧ (((w.alloc A).alloc B).alloc C).heap.size = w.heap.size + 3 ∧ Below w.heap.size w (((w.alloc A).alloc B).alloc C) := by
  have s1 : (w.alloc A).heap.size = w.heap.size + 1 := Array.size_push _
  have s2 : ((w.alloc A).alloc B).heap.size = w.heap.size + 1 + 1 := (Array.size_push _).trans (congrArg (· + 1) s1)
  have s3 : (((w.alloc A).alloc B).alloc C).heap.size = w.heap.size + 1 + 1 + 1 := (Array.size_push _).trans (congrArg (· + 1) s2)
  have b0 : Below w.heap.size w (w.alloc A) := (Below.refl _ _).alloc (Nat.le_refl _) _
  have b1 := b0.alloc b0.size B
  have n1 := heap_alloc_new (w.alloc A) B
  have n2 := heap_alloc_new ((w.alloc A).alloc B) C
  rw [s1] at n1
  rw [s2] at n2
  refine ⟨⟨?_, ?_, n2⟩, s3, b1.alloc b1.size C⟩
  · rw [Below.heap_alloc _ _ _ (by omega), Below.heap_alloc _ _ _ (by omega)]; exact heap_alloc_new w A
  · rw [Below.heap_alloc _ _ _ (by omega)]; exact n1

theorem newKeeper_any (w : World) : Calls Tryz.prog 26 #[] w fun e w' => e = .returned (.pointer (some ⟨w.heap.size + 2, 0, none⟩)) ∧
    Hid ((w'.heap[w.heap.size]? = some (.map #[] 0) ∧ w'.heap[w.heap.size + 1]? = some (.cells #[.map (some w.heap.size)] 118) ∧ w'.heap[w.heap.size + 2]? = some (.cells #[.slice none 0 0, .pointer (some ⟨w.heap.size + 1, 0, none⟩)] 77)) ∧ w'.heap.size = w.heap.size + 3 ∧ Below w.heap.size w w') := by
  have HN := hid (fun w => newStore_any w)
  go_enter Tryz.func26, Tryz.ntmps26
  go_wp2_with fail
  refine (HN.out _).mono ?_
  rintro e w1 ⟨rfl, rfl⟩
  go_wp2_with fail
  go_ret
  exact ⟨by simp, laid3 _ _ _ _⟩

theorem open_any (w : World) : Calls Tryz.prog 8 #[] w fun e w' => e = .returned (.pointer (some ⟨w.heap.size + 3, 0, none⟩)) ∧ Hid (Kb w' (w.heap.size + 3) (w.heap.size + 2) (w.heap.size + 1) w.heap.size (.slice none 0 0) (.map #[] 0) ∧ Below w.heap.size w w') := by
  have HN := hid (fun w => newKeeper_any w)
  go_enter Tryz.func8, Tryz.ntmps8
  go_wp2_with fail
  refine (HN.out _).mono ?_
  rintro e w1 ⟨rfl, H1⟩
  go_wp2_with fail
  go_ret
  obtain ⟨⟨h0, h1, h2⟩, hs, hb⟩ := H1.out
  refine ⟨by rw [hs]; rfl, ⟨?_, ?_, ?_, ?_⟩, hb.alloc hb.size _⟩
  · rw [← hs]; exact heap_alloc_new w1 _
  · exact (Below.heap_alloc _ _ _ (by omega)).trans h2
  · exact (Below.heap_alloc _ _ _ (by omega)).trans h1
  · exact (Below.heap_alloc _ _ _ (by omega)).trans h0

end Go.Proofs.YtbmohenjphmlgabGreat
