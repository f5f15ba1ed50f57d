/- Part 20 of a proof: what the last text needs. -/
import Derived.Test.YtbmohenjphmlgaaPart19
import Derived.Test.YtbmohenjphmlgaaPart13
/- Entries in memory (of the document's own answer): their digits and values in a row. -/
namespace Go.Proofs.Ytbmohenjphmlgaa
open Go.RowKit
set_option maxRecDepth 100000

theorem infoEnt : (Try.prog.info? 94).map (fun i => (i.zero, i.size, i.bytes)) = some (some (.agg #[.slice none 0 0, .string ⟨#[]⟩]), 2, 40) := by kernel_rfl

/-- The cells of entries. -/
def ecs (l : List (Value × ByteArray)) : List Value := l.flatMap fun p => [p.1, .string p.2]

theorem ecs_len (l : List (Value × ByteArray)) : (ecs l).length = l.length * 2 := by
  induction l with
  | nil => rfl
  | cons p l ih => unfold ecs at *; rw [List.flatMap_cons, List.length_append, ih]; simp; omega

theorem ecs_snoc (l : List (Value × ByteArray)) (p : Value × ByteArray) : ecs (l ++ [p]) = ecs l ++ [p.1, .string p.2] := by simp [ecs]

theorem ecs_at (l : List (Value × ByteArray)) (i : Nat) (h : i < l.length) : (ecs l)[i * 2]? = some l[i].1 ∧ (ecs l)[i * 2 + 1]? = some (.string l[i].2) := by
  induction l generalizing i with
  | nil => simp at h
  | cons p l ih =>
    cases i with
    | zero => simp [ecs]
    | succ i =>
      have := ih i (by simpa using h)
      unfold ecs at *
      rw [List.flatMap_cons]
      rw [show (i + 1) * 2 = i * 2 + 1 + 1 by omega]
      simpa using this

/-- A row of entries of a call's own. -/
def EOwn (w : World) (base : Nat) (v : Value) (l : List (Value × ByteArray)) : Prop := w.ownsRow base 94 2 v l.length (ecs l)

theorem eown_nil (w : World) (base : Nat) : EOwn w base (.slice none 0 0) [] := World.ownsRow_nil _ _ _ _
theorem eown_shape {w : World} {base : Nat} {v : Value} {l : List (Value × ByteArray)} (h : EOwn w base v l) : ∃ a cap, v = .slice a l.length cap ∧ l.length ≤ cap := by
  rcases h.2 with ⟨rfl, h0⟩ | ⟨g, cap, cur, rfl, _, _, hn, _⟩
  · exact ⟨none, 0, by rw [h0], by omega⟩
  · exact ⟨_, cap, rfl, hn⟩
theorem eown_frame {w w' : World} {b : Nat} {v : Value} {l : List (Value × ByteArray)} (h : EOwn w b v l) (hg : ∀ g, v.ownBlock = some g → w'.heap[g]? = w.heap[g]?) : EOwn w' b v l := owns_frame h hg
theorem eown_lt {w : World} {b : Nat} {v : Value} {l : List (Value × ByteArray)} (h : EOwn w b v l) : ∀ g, v.ownBlock = some g → b ≤ g ∧ g < w.heap.size := World.ownsRow.lt h
theorem eown_later {w w' : World} {b : Nat} {v : Value} {l : List (Value × ByteArray)} (h : EOwn w b v l) (hb : Below w.heap.size w w') : EOwn w' b v l := eown_frame h fun g hg => hb.block g (eown_lt h g hg).2

/-- Bytes that can be read, in a block that P admits. -/
def BrdX (P : Nat → Prop) (C : Nat) (w : World) (v : Value) (l : List UInt8) : Prop :=
  (v = .slice none 0 0 ∧ l = []) ∨ ∃ b off cap, v = .slice (some ⟨b, off, none⟩) l.length cap ∧ l.length ≤ cap ∧ b < C ∧ P b ∧ ∀ j (h : j < l.length), w.cell? ⟨b, off + j, none⟩ = some (.int .u8 (l[j].toNat : Nat))

theorem BrdX.brdC {P : Nat → Prop} {C B : Nat} {w : World} {v : Value} {l : List UInt8} (h : BrdX P C w v l) (hB : C ≤ B) : BrdC B w v l := by
  rcases h with h | ⟨b, off, cap, hv, hc, hlt, _, hcell⟩
  · exact .inl h
  · exact .inr ⟨b, off, cap, hv, hc, by omega, hcell⟩

theorem BrdC.brdX {C : Nat} {w : World} {v : Value} {l : List UInt8} (h : BrdC C w v l) {P : Nat → Prop} (hP : ∀ b, b < C → P b) : BrdX P C w v l := by
  rcases h with h | ⟨b, off, cap, hv, hc, hlt, hcell⟩
  · exact .inl h
  · exact .inr ⟨b, off, cap, hv, hc, hlt, hP b hlt, hcell⟩

theorem brdX_turn {P P' : Nat → Prop} {C C' : Nat} {w w' : World} {v : Value} {l : List UInt8} (h : BrdX P C w v l) (hc : C ≤ C') (hP : ∀ b, b < C → P b → P' b) (hb : ∀ k, k < C → P k → w'.heap[k]? = w.heap[k]?) : BrdX P' C' w' v l := by
  rcases h with h | ⟨b, off, cap, hv, hcap, hlt, hp, hcell⟩
  · exact .inl h
  · exact .inr ⟨b, off, cap, hv, hcap, by omega, hP b hlt hp, fun j hj => (World.cell?_of_block (w := w) (hb b hlt hp)).trans (hcell j hj)⟩

/-- Pairs of a slice and a text are entries. -/
def EntsOf (P : Nat → Prop) (C : Nat) (w : World) (ps : List (Value × ByteArray)) (l : List Tr.Ent) : Prop :=
  ps.length = l.length ∧ ∀ i (h : i < l.length), ∃ v s, ps[i]? = some (v, s) ∧ s.data.toList = l[i].val ∧ BrdX P C w v l[i].dig

theorem entsR_nil (P : Nat → Prop) (C : Nat) (w : World) : EntsOf P C w [] [] := ⟨rfl, fun i h => by simp at h⟩

theorem ents_turn {P P' : Nat → Prop} {C C' : Nat} {w w' : World} {ps : List (Value × ByteArray)} {l : List Tr.Ent} (h : EntsOf P C w ps l) (hc : C ≤ C') (hP : ∀ b, b < C → P b → P' b) (hb : ∀ k, k < C → P k → w'.heap[k]? = w.heap[k]?) : EntsOf P' C' w' ps l := by
  refine ⟨h.1, fun i hi => ?_⟩
  obtain ⟨v, s, h1, h2, h3⟩ := h.2 i hi
  exact ⟨v, s, h1, h2, brdX_turn h3 hc hP hb⟩

theorem ents_snoc {P : Nat → Prop} {C : Nat} {w : World} {ps : List (Value × ByteArray)} {l : List Tr.Ent} {v : Value} {s : ByteArray} {e : Tr.Ent} (h : EntsOf P C w ps l) (h1 : s.data.toList = e.val) (h2 : BrdX P C w v e.dig) : EntsOf P C w (ps ++ [(v, s)]) (l ++ [e]) := by
  refine ⟨by simp [h.1], fun i hi => ?_⟩
  rw [List.length_append, List.length_singleton] at hi
  by_cases hl : i < l.length
  · obtain ⟨v', s', a1, a2, a3⟩ := h.2 i hl
    refine ⟨v', s', ?_, ?_, ?_⟩
    · rw [List.getElem?_append_left (by rw [h.1]; exact hl)]; exact a1
    · rw [List.getElem_append_left hl]; exact a2
    · rw [List.getElem_append_left hl]; exact a3
  · obtain rfl : i = l.length := by omega
    refine ⟨v, s, ?_, ?_, ?_⟩
    · rw [← h.1]; simp
    · simp; exact h1
    · simp; exact h2

/-- Entries that can be read, in blocks that P admits. -/
def ERdQ (P : Nat → Prop) (B : Nat) (w : World) (a : Option Addr) (l : List Tr.Ent) : Prop :=
  ∀ i (h : i < l.length), ∃ b off ad cd, a = some ⟨b, off, none⟩ ∧ b < B ∧ P b ∧ w.cell? ⟨b, off + i * 2, none⟩ = some (.slice ad l[i].dig.length cd) ∧ w.cell? ⟨b, off + i * 2 + 1, none⟩ = some (.string ⟨l[i].val.toArray⟩) ∧ BrdX P B w (.slice ad l[i].dig.length cd) l[i].dig

/-- Entries that can be read. -/
def ERd (B : Nat) (w : World) (a : Option Addr) (l : List Tr.Ent) : Prop :=
  ∀ i (h : i < l.length), ∃ b off ad cd, a = some ⟨b, off, none⟩ ∧ b < B ∧ w.cell? ⟨b, off + i * 2, none⟩ = some (.slice ad l[i].dig.length cd) ∧ w.cell? ⟨b, off + i * 2 + 1, none⟩ = some (.string ⟨l[i].val.toArray⟩) ∧ BrdC B w (.slice ad l[i].dig.length cd) l[i].dig

theorem ERdQ.erd {P : Nat → Prop} {B : Nat} {w : World} {a : Option Addr} {l : List Tr.Ent} (h : ERdQ P B w a l) : ERd B w a l := by
  intro i hi
  obtain ⟨b, off, ad, cd, ha, hlt, _, h1, h2, h3⟩ := h i hi
  exact ⟨b, off, ad, cd, ha, hlt, h1, h2, h3.brdC (Nat.le_refl _)⟩

theorem ERd.erdQ {B : Nat} {w : World} {a : Option Addr} {l : List Tr.Ent} (h : ERd B w a l) {P : Nat → Prop} (hP : ∀ b, b < B → P b) : ERdQ P B w a l := by
  intro i hi
  obtain ⟨b, off, ad, cd, ha, hlt, h1, h2, h3⟩ := h i hi
  exact ⟨b, off, ad, cd, ha, hlt, hP b hlt, h1, h2, h3.brdX hP⟩

theorem erdQ_turn {P P' : Nat → Prop} {B B' : Nat} {w w' : World} {a : Option Addr} {l : List Tr.Ent} (h : ERdQ P B w a l) (hB : B ≤ B') (hP : ∀ b, b < B → P b → P' b) (hb : ∀ k, k < B → P k → w'.heap[k]? = w.heap[k]?) : ERdQ P' B' w' a l := by
  intro i hi
  obtain ⟨b, off, ad, cd, ha, hlt, hp, h1, h2, h3⟩ := h i hi
  have hk := hb b hlt hp
  exact ⟨b, off, ad, cd, ha, by omega, hP b hlt hp, (World.cell?_of_block (w := w) hk).trans h1, (World.cell?_of_block (w := w) hk).trans h2, brdX_turn h3 hB hP hb⟩

theorem ERd.later {B : Nat} {w w' : World} {a : Option Addr} {l : List Tr.Ent} (h : ERd B w a l) (hb : Below B w w') : ERd B w' a l := by
  intro i hi
  obtain ⟨b, off, ad, cd, ha, hlt, h1, h2, h3⟩ := h i hi
  exact ⟨b, off, ad, cd, ha, hlt, (hb.cell (p := ⟨b, off + i * 2, none⟩) hlt).trans h1, (hb.cell (p := ⟨b, off + i * 2 + 1, none⟩) hlt).trans h2, h3.frame hb⟩

theorem ERd.wider {B B' : Nat} {w : World} {a : Option Addr} {l : List Tr.Ent} (h : ERd B w a l) (hB : B ≤ B') : ERd B' w a l := by
  intro i hi
  obtain ⟨b, off, ad, cd, ha, hlt, h1, h2, h3⟩ := h i hi
  refine ⟨b, off, ad, cd, ha, by omega, h1, h2, ?_⟩
  rcases h3 with h3 | ⟨b', off', cap, hv, hc, hlt', hcell⟩
  · exact .inl h3
  · exact .inr ⟨b', off', cap, hv, hc, by omega, hcell⟩

theorem erdQ_of {w : World} {base : Nat} {a : Option Addr} {n cap : Nat} {ps : List (Value × ByteArray)} {l : List Tr.Ent} {P : Nat → Prop} {C : Nat} (ho : EOwn w base (.slice a n cap) ps) (he : EntsOf P C w ps l) (hC : C ≤ w.heap.size) (hP : ∀ b, base ≤ b → P b) : ERdQ P w.heap.size w a l := by
  intro i hi
  have hip : i < ps.length := by rw [he.1]; exact hi
  obtain ⟨v, s, h1, h2, h3⟩ := he.2 i hi
  have hps : ps[i] = (v, s) := by rw [List.getElem?_eq_getElem hip] at h1; exact Option.some.inj h1
  have hb := brdX_turn (P' := P) (w' := w) h3 hC (fun _ _ h => h) (fun _ _ _ => rfl)
  obtain ⟨ad, cd, rfl⟩ := (hb.brdC (Nat.le_refl _)).shape
  rcases ho.2 with ⟨_, h0⟩ | ⟨b, cap', cur, hv, hbg, hg, _⟩
  · omega
  · have hlt := (Array.getElem?_eq_some_iff.1 hg).1
    simp only [Value.slice.injEq] at hv
    obtain ⟨rfl, _, _⟩ := hv
    have hc := World.ownsRow.cells (g := b) ho rfl
    obtain ⟨e0, e1⟩ := ecs_at ps i hip
    rw [hps] at e0 e1
    have a0 : ((⟨b, 0, none⟩ : Addr).add (i * 2)) = ⟨b, 0 + i * 2, none⟩ := by unfold Addr.add; split <;> simp_all
    have a1 : ((⟨b, 0, none⟩ : Addr).add (i * 2 + 1)) = ⟨b, 0 + i * 2 + 1, none⟩ := by unfold Addr.add; split <;> simp_all <;> omega
    refine ⟨b, 0, ad, cd, rfl, hlt, hP b hbg, a0 ▸ hc _ _ e0, ?_, hb⟩
    have := a1 ▸ hc _ _ e1
    rw [this]
    cases s
    simp only at h2
    rw [← h2]

theorem erd_of {w : World} {base : Nat} {a : Option Addr} {n cap : Nat} {ps : List (Value × ByteArray)} {l : List Tr.Ent} {P : Nat → Prop} {C : Nat} (ho : EOwn w base (.slice a n cap) ps) (he : EntsOf P C w ps l) (hC : C ≤ w.heap.size) : ERd w.heap.size w a l :=
  (erdQ_of (P := fun _ => True) ho (ents_turn he (Nat.le_refl _) (fun _ _ _ => trivial) (fun _ _ _ => rfl)) hC (fun _ _ => trivial)).erd

theorem cells_ent (w : World) (v : Value) (s : ByteArray) (e : TypeId) : ∀ j u, [v, Value.string s][j]? = some u → (w.alloc (.cells #[v, .string s] e)).cell? ((⟨w.heap.size, 0, none⟩ : Addr).add j) = some u := by
  intro j u hu
  have hh : (w.alloc (.cells #[v, .string s] e)).heap[w.heap.size]? = some (.cells #[v, .string s] e (0, 0)) := heap_alloc_new w _
  have hadd : (⟨w.heap.size, 0, none⟩ : Addr).add j = ⟨w.heap.size, j, none⟩ := by unfold Addr.add; split <;> simp_all
  rw [hadd, cell_of_row _ _ j _ _ _ hh]
  simpa using hu

/-- An entry that was just laid is appended to a row of the call's own: at a step of a region that draws. -/
theorem step_push_ent {ops : Array Oper} {o : Oper} {act : Act} {K : Act → World → Prop} {Q' : Exit → Act → World → Prop} {E : Prop} (hgd : o.guard = none) (s x : Operand)
    (hop : o.op = .call { callee := .builtin .append, args := #[s, x], argTypes := #[85, 85] }) {wr : World} {B : Nat} {v1 : Value} {l1 : List (Value × ByteArray)} (v : Value) (t : ByteArray) (hv1c : v.oneCell' = true) (L : Nat) (hL : wr.heap.size = L)
    (hs : act.eval s = v1) (hx : act.eval x = .slice (some ⟨L, 0, none⟩) 1 1) (ho : EOwn wr B v1 l1) (hB : B ≤ wr.heap.size) (hlen : l1.length ≤ 1000000)
    (h : ∀ v' w', EOwn w' B v' (l1 ++ [(v, t)]) → Below B wr w' → (∀ k, k < wr.heap.size → v1.ownBlock ≠ some k → w'.heap[k]? = wr.heap[k]?) → (∀ b, v'.ownBlock = some b → v1.ownBlock = some b ∨ wr.heap.size ≤ b) → wr.heap.size ≤ w'.heap.size → K (act.put o.dst v') w') : if Region.wanted o (yielded ops act.tmps) = true then Oper.wp Try.prog o act (wr.alloc (.cells #[v, .string t] 94)) K Q' else E := by
  subst hL
  have hw : Region.wanted o (yielded ops act.tmps) = true := by simp [Region.wanted, hgd]
  rw [if_pos hw]
  obtain ⟨i0, hi, hz0, hz1, hz2⟩ := info_parts infoEnt
  have hb2 : Below B wr (wr.alloc (.cells #[v, .string t] 94)) := (Below.refl _ _).alloc hB _
  have hBw : B ≤ (wr.alloc (.cells #[v, .string t] 94)).heap.size := Nat.le_trans hB hb2.size
  have ho2 : EOwn (wr.alloc (.cells #[v, .string t] 94)) B v1 l1 := eown_frame ho (fun g hg => Below.heap_alloc _ _ _ (eown_lt ho g hg).2)
  obtain ⟨v', w', hr, h2, h3, hn⟩ := run_append_mine (P := Try.prog) _ B 85 o.type 94 i0 _ 2 40 Try.underlying85 hi hz0 hz1 hz2 rfl (by decide) v1 l1.length (ecs l1) ho2 ⟨wr.heap.size, 0, none⟩ 1 1 [v, .string t] rfl (cells_ent _ _ _ _) (by intro u hu; rcases List.mem_cons.1 hu with rfl | hu; exact hv1c; rw [List.mem_singleton.1 hu]; rfl) (by unfold maxLen; omega) (by omega) hBw
  unfold Oper.wp execOp
  simp only [hop, resolve, invoke, builtin, Sem.run_bind, Sem.run_pure, Result.andThen_ok, List.map_toArray, List.map_cons, List.map_nil, hs, hx, hr]
  refine h v' w' ?_ (hb2.grown h3 hBw (fun g hgg => (eown_lt ho g hgg).1)) (fun k hk hne => (h3.block k (by rw [alloc_size]; omega) (fun e => hne e.symm)).trans (Below.heap_alloc _ _ _ hk)) ?_ (by have := h3.size; rw [alloc_size] at this; omega)
  · unfold EOwn
    rw [List.length_append, ecs_snoc]
    exact h2
  · intro b hb'
    rcases hn with e | ⟨g, e, hle⟩
    · left; rw [← e]; exact hb'
    · right; rw [e] at hb'; cases hb'; rw [alloc_size] at hle; omega
end Go.Proofs.Ytbmohenjphmlgaa

/- The walk of behind (of the document's own answer). -/
namespace Go.Proofs.Ytbmohenjphmlgaa
open Go.RowKit
set_option maxRecDepth 100000

theorem behind_take_hit {l : List Tr.Ent} {k : Nat} (hk : k < l.length) {s : List UInt8} (h : s <+: l[k].dig) : Tr.behind s (l.take (k + 1)) = Tr.behind s (l.take k) ++ [⟨l[k].dig.drop s.length, l[k].val⟩] := by
  rw [List.take_succ_eq_append_getElem hk, Tr.behind_append, Tr.behind_hit h, Tr.behind_nil]

theorem behind_take_miss {l : List Tr.Ent} {k : Nat} (hk : k < l.length) {s : List UInt8} (h : ¬ s <+: l[k].dig) : Tr.behind s (l.take (k + 1)) = Tr.behind s (l.take k) := by
  rw [List.take_succ_eq_append_getElem hk, Tr.behind_append, Tr.behind_miss h, Tr.behind_nil, List.append_nil]

theorem behind_len (s : List UInt8) (l : List Tr.Ent) : (Tr.behind s l).length ≤ l.length := List.length_filterMap_le _ _

/-- The rest of digits, cut off by their start. -/
theorem brdX_drop {P : Nat → Prop} {C : Nat} {w : World} {b off n cd : Nat} {l : List UInt8} (h : BrdX P C w (.slice (some ⟨b, off, none⟩) l.length cd) l) (hn : n ≤ l.length) {a' : Option Addr} (ha : a' = (if cd = n then some ⟨b, off, none⟩ else some ⟨b, off + n, none⟩)) : BrdX P C w (.slice a' (l.length - n) (cd - n)) (l.drop n) := by
  rcases h with ⟨hv, _⟩ | ⟨b', off', cap, hv, hcap, hlt, hne, hcell⟩
  · simp at hv
  · simp only [Value.slice.injEq, Option.some.injEq, Addr.mk.injEq, and_true, true_and] at hv
    obtain ⟨⟨rfl, rfl⟩, rfl⟩ := hv
    by_cases hc : cd = n
    · rw [if_pos hc] at ha
      subst ha
      have h0 : l.length = n := by omega
      refine .inr ⟨b, off, cd - n, by simp, by simp; omega, hlt, hne, fun j hj => ?_⟩
      simp at hj
      omega
    · rw [if_neg hc] at ha
      subst ha
      refine .inr ⟨b, off + n, cd - n, by simp, by simp; omega, hlt, hne, fun j hj => ?_⟩
      have := hcell (n + j) (by simp at hj; omega)
      rw [← Nat.add_assoc] at this
      rw [this]
      simp

/-- Entries are told. -/
def EntResQ (P : Nat → Prop) (w : World) (l : List Tr.Ent) (e : Ending) (w' : World) : Prop := ∃ a' cap', e = .returned (.slice a' l.length cap') ∧ ERdQ P w'.heap.size w' a' l ∧ Below w.heap.size w w'

def EntRes (w : World) (l : List Tr.Ent) (e : Ending) (w' : World) : Prop := ∃ a' cap', e = .returned (.slice a' l.length cap') ∧ ERd w'.heap.size w' a' l ∧ Below w.heap.size w w'

set_option maxHeartbeats 6400000 in
theorem behindQ_any (P : Nat → Prop) (a : Option Addr) (cap : Nat) (l : List Tr.Ent) (d : UInt8) (w : World) (hP : ∀ b, w.heap.size ≤ b → P b) (hr : ERdQ P w.heap.size w a l) (hl : l.length ≤ 1000) (hd : ∀ e ∈ l, e.dig.length ≤ 1000000) :
    Calls Try.prog 60 #[.slice a l.length cap, .int .u8 (d.toNat : Nat)] w (EntResQ P w (Tr.behind [d] l)) := by
  have HR := hid hr
  have HD := hid hd
  have HPP := hid hP
  clear hr hd hP
  go_enter Try.func60, Try.ntmps60
  go_wp2_with fail
  go_loopw [5, 6] (fun v i wr => ∃ (k : Nat) (ps : List (Value × ByteArray)), i = .int .i64 k ∧ k ≤ l.length ∧ Hid (EOwn wr w.heap.size v ps ∧ EntsOf P w.heap.size wr ps (Tr.behind [d] (l.take k)) ∧ Below w.heap.size w wr)) (fun _ i _ => l.length - (intOf i).toNat)
  case atStart => exact ⟨0, [], rfl, Nat.zero_le _, eown_nil _ _, by rw [List.take_zero]; exact entsR_nil _ _ _, Below.refl _ _⟩
  case round =>
    obtain ⟨k, ps, rfl, hk, HH⟩ := hrel
    obtain ⟨av, cv, hv, _⟩ := eown_shape HH.out.1
    subst hv
    by_cases hlt : k < l.length
    · obtain ⟨b, off, ad, cd, rfl, hb, _, e0, e1, hbr⟩ := HR.out k hlt
      have f0 := (HH.out.2.2.cell (p := ⟨b, off + k * 2, none⟩) hb).trans e0
      have f1 := (HH.out.2.2.cell (p := ⟨b, off + k * 2 + 1, none⟩) hb).trans e1
      have hbw : b < wr.heap.size := Nat.lt_of_lt_of_le hb HH.out.2.2.size
      have i1 : (0 : Int) ≤ (k : Int) := by omega
      have i2 : (k : Int) < (l.length : Int) := by omega
      have hbr2 := (hbr.brdC (Nat.le_refl _)).frame HH.out.2.2
      have HBX : Hid (BrdX P w.heap.size wr (.slice ad l[k].dig.length cd) l[k].dig) := brdX_turn hbr (Nat.le_refl _) (fun _ _ h => h) (fun x hx _ => HH.out.2.2.block x hx)
      have HLP : Hid (ps.length ≤ 1000000) := by
        rw [Hid, HH.out.2.1.1]
        have := behind_len [d] (l.take k)
        rw [List.length_take] at this
        omega
      have HDK := hid (HD.out _ (List.getElem_mem hlt))
      clear e0 e1 hbr
      have HHIT := hid (fun h => behind_take_hit (l := l) (s := [d]) hlt h)
      have HMISS := hid (fun h => behind_take_miss (l := l) (s := [d]) hlt h)
      generalize l[k] = e at *
      obtain ⟨dig, val⟩ := e
      cases dig with
      | nil =>
        have HM := hid (HMISS.out (by simp))
        clear HHIT HMISS
        go_wp2_with fail
        exact ⟨⟨k + 1, ps, by go_num, by omega, HH.out.1, by rw [HM.out]; exact HH.out.2.1, HH.out.2.2⟩, by simp [intOf]; omega⟩
      | cons c r =>
        rcases hbr2 with ⟨_, h⟩ | ⟨b2, off2, cap2, hv2, hcap2, hlt2, hcell2⟩
        · cases h
        simp only [Value.slice.injEq] at hv2
        obtain ⟨rfl, _, rfl⟩ := hv2
        have g0 : wr.cell? ⟨b2, off2, none⟩ = some (.int .u8 (c.toNat : Nat)) := by
          have := hcell2 0 (by simp)
          simpa using this
        have hb2w : b2 < wr.heap.size := Nat.lt_of_lt_of_le hlt2 HH.out.2.2.size
        have hrl : (0 : Int) < (r.length : Int) + 1 := by omega
        have hrl1 : (1 : Int) ≤ (r.length : Int) + 1 := by omega
        have hrl2 : r.length ≤ 1000000 := by have := HDK.out; simp at this; omega
        clear hcell2
        by_cases hcd : c = d
        · subst hcd
          have HM := hid (HHIT.out (by simp))
          clear HHIT HMISS
          simp only [List.drop_succ_cons, List.drop_zero, List.length_singleton] at HM
          have HDX := hid (fun a' ha => brdX_drop (n := 1) (a' := a') HBX.out (by simp) ha)
          simp only [List.drop_succ_cons, List.drop_zero, List.length_cons, Nat.add_sub_cancel] at HDX
          have HO1 : Hid (EOwn wr.drew w.heap.size (.slice av ps.length cv) ps) := HH.out.1
          have hws : w.heap.size ≤ wr.heap.size := HH.out.2.2.size
          obtain ⟨V, hV⟩ : ∃ V : ByteArray, V = ⟨val.toArray⟩ := ⟨_, rfl⟩
          have HVV : Hid (V.data.toList = val) := by rw [Hid, hV]
          rw [← hV] at f1
          clear hV
          by_cases hc1 : cd = 1
          · have HDX1 := hid (HDX.out _ (if_pos hc1).symm)
            have hr0 : r = [] := by
              simp only [List.length_cons] at hcap2
              exact List.eq_nil_of_length_eq_zero (by omega)
            subst hr0
            subst hc1
            clear HDX hcap2
            go_wp2_with fail
            go_region_held3 (fun w' => w'.cell? ⟨b, off + k * 2, none⟩ = some (.slice (some ⟨b2, off2, none⟩) 1 1) ∧ w'.cell? ⟨b, off + k * 2 + 1, none⟩ = some (.string V)) (go_keep)
              ((refine step_push_ent (wr := wr.drew) rfl (.tmp 31) (.tmp 44) rfl (.slice (some ⟨b2, off2, none⟩) 0 0) V rfl wr.heap.size rfl rfl rfl HO1.out hws HLP.out ?_; intro v' w' ho' hb' hk' hn' hz'; have HO' := hid ho'; have HB' := hid hb'; have y0 := (hb'.cell (p := ⟨b, off + k * 2, none⟩) hb).trans f0; have y1 := (hb'.cell (p := ⟨b, off + k * 2 + 1, none⟩) hb).trans f1; clear ho' hb' hk' hn' hz'))
            all_goals go_wp2_with fail
            all_goals
              exact ⟨⟨k + 1, _, by go_num, by omega, HO'.out, by
                rw [HM.out]
                exact ents_snoc (ents_turn HH.out.2.1 (Nat.le_refl _) (fun _ _ h => h) (fun x hx _ => HB'.out.block x hx)) HVV.out (brdX_turn HDX1.out (Nat.le_refl _) (fun _ _ h => h) (fun x hx _ => HB'.out.block x hx)), HH.out.2.2.trans (below_undrew HB'.out)⟩, by simp [intOf]; omega⟩
          · have HDX1 := hid (HDX.out _ (if_neg hc1).symm)
            clear HDX hcap2
            go_wp2_with fail
            go_region_held3 (fun w' => w'.cell? ⟨b, off + k * 2, none⟩ = some (.slice (some ⟨b2, off2, none⟩) (r.length + 1) cd) ∧ w'.cell? ⟨b, off + k * 2 + 1, none⟩ = some (.string V)) (go_keep)
              ((refine step_push_ent (wr := wr.drew) rfl (.tmp 31) (.tmp 44) rfl (.slice (some ⟨b2, off2 + 1, none⟩) r.length (cd - 1)) V rfl wr.heap.size rfl rfl rfl HO1.out hws HLP.out ?_; intro v' w' ho' hb' hk' hn' hz'; have HO' := hid ho'; have HB' := hid hb'; have y0 := (hb'.cell (p := ⟨b, off + k * 2, none⟩) hb).trans f0; have y1 := (hb'.cell (p := ⟨b, off + k * 2 + 1, none⟩) hb).trans f1; clear ho' hb' hk' hn' hz'))
            all_goals go_wp2_with fail
            all_goals
              exact ⟨⟨k + 1, _, by go_num, by omega, HO'.out, by
                rw [HM.out]
                exact ents_snoc (ents_turn HH.out.2.1 (Nat.le_refl _) (fun _ _ h => h) (fun x hx _ => HB'.out.block x hx)) HVV.out (brdX_turn HDX1.out (Nat.le_refl _) (fun _ _ h => h) (fun x hx _ => HB'.out.block x hx)), HH.out.2.2.trans (below_undrew HB'.out)⟩, by simp [intOf]; omega⟩
        · have HM := hid (HMISS.out (by simp; exact fun h => hcd h.symm))
          have hne : ((c.toNat : Int) == (d.toNat : Int)) = false := by
            rw [beq_eq_false_iff_ne]
            intro h
            exact hcd (UInt8.toNat_inj.1 (by omega))
          clear HHIT HMISS
          go_wp2_with fail
          exact ⟨⟨k + 1, ps, by go_num, by omega, HH.out.1, by rw [HM.out]; exact HH.out.2.1, HH.out.2.2⟩, by simp [intOf]; omega⟩
    · obtain rfl : k = l.length := by omega
      have i2 : ¬ (l.length : Int) < (l.length : Int) := by omega
      have HO := hid HH.out.1
      have HE := hid HH.out.2.1
      have HB := hid HH.out.2.2
      rw [List.take_length] at HE
      have HLN : Hid (ps.length = (Tr.behind [d] l).length) := HE.out.1
      clear HH hlt
      go_wp2_with fail
      go_ret
      exact ⟨av, cv, by rw [← HLN.out]; rfl, erdQ_of HO.out HE.out HB.out.size HPP.out, HB.out⟩

theorem behindR_any (a : Option Addr) (cap : Nat) (l : List Tr.Ent) (d : UInt8) (w : World) (hr : ERd w.heap.size w a l) (hl : l.length ≤ 1000) (hd : ∀ e ∈ l, e.dig.length ≤ 1000000) :
    Calls Try.prog 60 #[.slice a l.length cap, .int .u8 (d.toNat : Nat)] w (EntRes w (Tr.behind [d] l)) :=
  (behindQ_any (fun _ => True) a cap l d w (fun _ _ => trivial) (hr.erdQ (fun _ _ => trivial)) hl hd).mono fun _ _ ⟨a', cap', h1, h2, h3⟩ => ⟨a', cap', h1, h2.erd, h3⟩
end Go.Proofs.Ytbmohenjphmlgaa

/- The walk of path (of the document's own answer). -/
namespace Go.Proofs.Ytbmohenjphmlgaa
open Go.RowKit
set_option maxRecDepth 100000

set_option maxHeartbeats 6400000 in
theorem pathR_even (a : Option Addr) (cap : Nat) (R : List UInt8) (leaf : Bool) (w : World) (hr : Brd w.heap.size w (.slice a R.length cap) R) (h16 : ∀ c ∈ R, c.toNat < 16) (hl : R.length ≤ 1000000) (hev : R.length % 2 = 0) :
    Calls Try.prog 76 #[.slice a R.length cap, .bool leaf] w fun e w' => e = .returned (.string ⟨(Tr.path R leaf).toArray⟩) ∧ Below w.heap.size w w' := by
  have HRD := hid hr
  have HR16 := hid h16
  have HLL := hid hl
  have HEV := hid hev
  have hevi : ((R.length : Int) % 2 == 1) = false := by rw [beq_eq_false_iff_ne]; omega
  obtain ⟨F, hF⟩ : ∃ F : UInt8, F = UInt8.ofNat (if leaf then 32 else 0) := ⟨_, rfl⟩
  have HP : Hid (Tr.path R leaf = F :: Tr.pack R) := by
    rw [Hid, hF]; unfold Tr.path; rw [if_neg (by omega)]
  have HB0 : Hid (Bown (w.alloc (.cells #[.int .u8 (F.toNat : Nat)] 5)) w.heap.size (.slice (some ⟨w.heap.size, 0, none⟩) 1 1) (F :: Tr.pack [])) := bown_one w _ F (Nat.le_refl _)
  have hF2 : (F.toNat : Int) = if leaf then 32 else 0 := by rw [hF]; cases leaf <;> rfl
  clear hr h16 hev hF
  cases leaf
  all_goals
    simp only [if_true, if_false, Bool.false_eq_true] at hF2
    rw [hF2] at HB0
    go_enter Try.func76, Try.ntmps76
    go_wp2_with fail
    go_loopw [6, 7] (fun v i wr => ∃ m : Nat, i = .int .i64 m ∧ m ≤ R.length ∧ Hid (m % 2 = 0 ∧ Bown wr w.heap.size v (F :: Tr.pack (R.take m)) ∧ Below w.heap.size w wr)) (fun _ i _ => R.length + 2 - (intOf i).toNat)
    case atStart => exact ⟨0, rfl, Nat.zero_le _, rfl, by rw [List.take_zero]; exact HB0.out, (Below.refl _ _).alloc (Nat.le_refl _) _⟩
    case round =>
      obtain ⟨m, rfl, hk, HH⟩ := hrel
      obtain ⟨av, cv, hv⟩ := bown_shape HH.out.2.1
      by_cases hlt : m < R.length
      · have hlt1 : m + 1 < R.length := by have := HEV.out; have := HH.out.1; omega
        rcases HRD.out with ⟨_, h0⟩ | ⟨b, off, cap, hv2, hb, hcell⟩
        · rw [h0] at hlt; simp at hlt
        simp only [Value.slice.injEq] at hv2
        obtain ⟨hv2, _, hcc⟩ := hv2
        subst hv2
        subst hcc
        have e0 := hcell m hlt
        have e1 := hcell (m + 1) hlt1
        have g0 := (HH.out.2.2.cell (p := ⟨b, off + m, none⟩) hb).trans e0
        have g1 := (HH.out.2.2.cell (p := ⟨b, off + (m + 1), none⟩) hb).trans e1
        have HE0 := hid e0
        have HE1 := hid e1
        clear e0 e1
        have x16 := HR16.out _ (List.getElem_mem hlt)
        have y16 := HR16.out _ (List.getElem_mem hlt1)
        have HPK : Hid (F :: Tr.pack (R.take (m + 2)) = (F :: Tr.pack (R.take m)) ++ [UInt8.ofNat (16 * R[m].toNat + R[m + 1].toNat)]) := by
          rw [Hid, List.cons_append]
          congr 1
          rw [List.take_succ_eq_append_getElem hlt1, List.take_succ_eq_append_getElem hlt, List.append_assoc]
          exact Tr.pack_snoc _ _ _ (m / 2) (by rw [List.length_take]; have := HH.out.1; omega)
        have HLN : Hid ((F :: Tr.pack (R.take m)).length + 1 ≤ 1000000000) := by
          have := Tr.pack_le (R.take m)
          rw [List.length_take] at this
          rw [Hid, List.length_cons]
          have := HLL.out
          omega
        have HO1 : Hid (Bown wr.drew w.heap.size (.slice av (F :: Tr.pack (R.take m)).length cv) (F :: Tr.pack (R.take m))) := by rw [← hv]; exact HH.out.2.1
        have HB1 : Hid (Below w.heap.size w wr.drew) := HH.out.2.2.drew
        have HM2 := hid HH.out.1
        subst hv
        have i1 : (0 : Int) ≤ (m : Int) := by omega
        have i2 : (m : Int) < (R.length : Int) := by omega
        have i3 : (m : Int) + 1 < (R.length : Int) := by omega
        have i4 : (0 : Int) ≤ (m : Int) + 1 := by omega
        have hll := HLL.out
        have i5 : IntKind.i64.wrap ((m : Int) + 1) = (m : Int) + 1 := by rw [IntKind.wrap_i64]; omega
        have i6 : ((m : Int) + 1).toNat = m + 1 := by omega
        generalize R[m] = x at *
        generalize R[m + 1] = y at *
        have HZ : Hid (#[Value.int .u8 (IntKind.u8.wrap (IntKind.u8.wrap (16 * (x.toNat : Int)) + (y.toNat : Int)))].toList = Lib.byteCells [UInt8.ofNat (16 * x.toNat + y.toNat)]) := by
          have e : (UInt8.ofNat (16 * x.toNat + y.toNat)).toNat = 16 * x.toNat + y.toNat := by rw [UInt8.toNat_ofNat']; omega
          have hw8 : ∀ n : Int, IntKind.u8.wrap n = n % 256 := fun n => by simp [IntKind.wrap, IntKind.bits, IntKind.signed]
          rw [Hid, hw8, hw8]
          simp only [Lib.byteCells, List.map_cons, List.map_nil, e]
          show [Value.int .u8 _] = [Value.int .u8 _]
          congr 2
          omega
        clear HH
        generalize F :: Tr.pack (R.take m) = dk at *
        clear hcell
        go_wp2_with fail
        go_region_held3 (fun w' => w'.cell? ⟨b, off + m, none⟩ = some (.int .u8 (x.toNat : Nat)) ∧ w'.cell? ⟨b, off + (m + 1), none⟩ = some (.int .u8 (y.toNat : Nat))) (go_keep)
          ((go_loud (refine step_push_bytes rfl (.tmp 29) (.tmp 41) rfl [UInt8.ofNat (16 * x.toNat + y.toNat)] _ rfl rfl rfl HO1.out HB1.out (Nat.le_refl _) HZ.out HLN.out ?_); intro v' w' ho' hb'; have HO' := hid ho'; have HB' := hid hb'; have q0 := (hb'.cell (p := ⟨b, off + m, none⟩) hb).trans HE0.out; have q1 := (hb'.cell (p := ⟨b, off + (m + 1), none⟩) hb).trans HE1.out; clear ho' hb'))
        all_goals go_wp2_with fail
        all_goals exact ⟨⟨m + 2, by go_num, by omega, by have := HM2.out; omega, by rw [HPK.out]; exact HO'.out, HB'.out⟩, by simp [intOf]; omega⟩
      · obtain rfl : m = R.length := by omega
        have i2 : ¬ (R.length : Int) < (R.length : Int) := by omega
        have h3 := HH.out.2.1
        rw [List.take_length, ← HP.out] at h3
        have HB3 := hid HH.out.2.2
        have hcv := run_bytes_string (brd_of_bown h3)
        obtain ⟨a3, c3, rfl⟩ := bown_shape h3
        clear HH hlt h3 hv
        go_wp2_with fail
        go_ret
        exact ⟨rfl, HB3.out⟩

set_option maxHeartbeats 6400000 in
theorem pathR_odd (b0 off0 : Nat) (cap0 : Nat) (d0 : UInt8) (R : List UInt8) (leaf : Bool) (w : World) (hr : BrdX (fun _ => True) w.heap.size w (.slice (some ⟨b0, off0, none⟩) (d0 :: R).length cap0) (d0 :: R)) (h16 : ∀ c ∈ d0 :: R, c.toNat < 16) (hl : R.length ≤ 1000000) (hev : R.length % 2 = 0) :
    Calls Try.prog 76 #[.slice (some ⟨b0, off0, none⟩) (R.length + 1) cap0, .bool leaf] w fun e w' => e = .returned (.string ⟨(Tr.path (d0 :: R) leaf).toArray⟩) ∧ Below w.heap.size w w' := by
  have HR16 := hid (fun c (hc : c ∈ R) => h16 c (List.mem_cons_of_mem _ hc))
  have h0 := h16 d0 (List.mem_cons_self ..)
  have HLL := hid hl
  have HEV := hid hev
  have hevi : (((R.length : Int) + 1) % 2 == 1) = true := by rw [beq_iff_eq]; omega
  obtain ⟨F, hF⟩ : ∃ F : UInt8, F = UInt8.ofNat ((if leaf then 32 else 0) + 16 + d0.toNat) := ⟨_, rfl⟩
  have HP : Hid (Tr.path (d0 :: R) leaf = F :: Tr.pack R) := by
    rw [Hid, hF]; unfold Tr.path; rw [if_pos (by simp only [List.length_cons]; omega)]; rfl
  have HB0 : Hid (Bown (w.alloc (.cells #[.int .u8 (F.toNat : Nat)] 5)) w.heap.size (.slice (some ⟨w.heap.size, 0, none⟩) 1 1) (F :: Tr.pack [])) := bown_one w _ F (Nat.le_refl _)
  have hF2 : (F.toNat : Int) = (if leaf then 48 else 16) + (d0.toNat : Int) := by
    rw [hF, UInt8.toNat_ofNat']
    cases leaf
    · simp; omega
    · simp; omega
  have hrl : (0 : Int) < (R.length : Int) + 1 := by omega
  have hrl1 : (1 : Int) ≤ (R.length : Int) + 1 := by omega
  have hX := hr
  rcases hr with ⟨h, _⟩ | ⟨b1, off1, cap1, hv1, hcap1, hlt1, _, hcell1⟩
  · simp at h
  simp only [Value.slice.injEq, Option.some.injEq, Addr.mk.injEq, and_true, true_and] at hv1
  obtain ⟨⟨rfl, rfl⟩, rfl⟩ := hv1
  have g00 : w.cell? ⟨b0, off0, none⟩ = some (.int .u8 (d0.toNat : Nat)) := by
    have := hcell1 0 (by simp)
    simpa using this
  have hd8 : ((16 : Int) + (d0.toNat : Int)) % 256 = 16 + (d0.toNat : Int) := by omega
  have hd9 : ((48 : Int) + (d0.toNat : Int)) % 256 = 48 + (d0.toNat : Int) := by omega
  have HDX := hid (fun a' ha => brdX_drop (n := 1) (a' := a') hX (by simp) ha)
  simp only [List.drop_succ_cons, List.drop_zero, List.length_cons, Nat.add_sub_cancel] at HDX
  clear h16 hev hF hX hcell1
  by_cases hc1 : cap0 = 1
  · have HRD : Hid (Brd w.heap.size w (.slice (some ⟨b0, off0, none⟩) R.length (cap0 - 1)) R) := ((HDX.out _ (if_pos hc1).symm).brdC (Nat.le_refl _)).brd
    subst hc1
    clear HDX hcap1
    cases leaf
    all_goals
      simp only [if_true, if_false, Bool.false_eq_true] at hF2
      rw [hF2] at HB0
      go_enter Try.func76, Try.ntmps76
      go_wp2_with fail
      clear g00
      generalize (some ⟨b0, off0, none⟩ : Option Addr) = a1 at *
      go_loopw [6, 7] (fun v i wr => ∃ m : Nat, i = .int .i64 m ∧ m ≤ R.length ∧ Hid (m % 2 = 0 ∧ Bown wr w.heap.size v (F :: Tr.pack (R.take m)) ∧ Below w.heap.size w wr)) (fun _ i _ => R.length + 2 - (intOf i).toNat)
      case atStart => exact ⟨0, rfl, Nat.zero_le _, rfl, by rw [List.take_zero]; exact HB0.out, (Below.refl _ _).alloc (Nat.le_refl _) _⟩
      case round =>
        obtain ⟨m, rfl, hk, HH⟩ := hrel
        obtain ⟨av, cv, hv⟩ := bown_shape HH.out.2.1
        by_cases hlt : m < R.length
        · have hlt1 : m + 1 < R.length := by have := HEV.out; have := HH.out.1; omega
          rcases HRD.out with ⟨_, h0⟩ | ⟨b, off, cap, hv2, hb, hcell⟩
          · rw [h0] at hlt; simp at hlt
          simp only [Value.slice.injEq] at hv2
          obtain ⟨hv2, _, hcc⟩ := hv2
          subst hv2
          subst hcc
          have e0 := hcell m hlt
          have e1 := hcell (m + 1) hlt1
          have g0 := (HH.out.2.2.cell (p := ⟨b, off + m, none⟩) hb).trans e0
          have g1 := (HH.out.2.2.cell (p := ⟨b, off + (m + 1), none⟩) hb).trans e1
          have HE0 := hid e0
          have HE1 := hid e1
          clear e0 e1
          have x16 := HR16.out _ (List.getElem_mem hlt)
          have y16 := HR16.out _ (List.getElem_mem hlt1)
          have HPK : Hid (F :: Tr.pack (R.take (m + 2)) = (F :: Tr.pack (R.take m)) ++ [UInt8.ofNat (16 * R[m].toNat + R[m + 1].toNat)]) := by
            rw [Hid, List.cons_append]
            congr 1
            rw [List.take_succ_eq_append_getElem hlt1, List.take_succ_eq_append_getElem hlt, List.append_assoc]
            exact Tr.pack_snoc _ _ _ (m / 2) (by rw [List.length_take]; have := HH.out.1; omega)
          have HLN : Hid ((F :: Tr.pack (R.take m)).length + 1 ≤ 1000000000) := by
            have := Tr.pack_le (R.take m)
            rw [List.length_take] at this
            rw [Hid, List.length_cons]
            have := HLL.out
            omega
          have HO1 : Hid (Bown wr.drew w.heap.size (.slice av (F :: Tr.pack (R.take m)).length cv) (F :: Tr.pack (R.take m))) := by rw [← hv]; exact HH.out.2.1
          have HB1 : Hid (Below w.heap.size w wr.drew) := HH.out.2.2.drew
          have HM2 := hid HH.out.1
          subst hv
          have i1 : (0 : Int) ≤ (m : Int) := by omega
          have i2 : (m : Int) < (R.length : Int) := by omega
          have i3 : (m : Int) + 1 < (R.length : Int) := by omega
          have i4 : (0 : Int) ≤ (m : Int) + 1 := by omega
          have hll := HLL.out
          have i5 : IntKind.i64.wrap ((m : Int) + 1) = (m : Int) + 1 := by rw [IntKind.wrap_i64]; omega
          have i6 : ((m : Int) + 1).toNat = m + 1 := by omega
          generalize R[m] = x at *
          generalize R[m + 1] = y at *
          have HZ : Hid (#[Value.int .u8 (IntKind.u8.wrap (IntKind.u8.wrap (16 * (x.toNat : Int)) + (y.toNat : Int)))].toList = Lib.byteCells [UInt8.ofNat (16 * x.toNat + y.toNat)]) := by
            have e : (UInt8.ofNat (16 * x.toNat + y.toNat)).toNat = 16 * x.toNat + y.toNat := by rw [UInt8.toNat_ofNat']; omega
            have hw8 : ∀ n : Int, IntKind.u8.wrap n = n % 256 := fun n => by simp [IntKind.wrap, IntKind.bits, IntKind.signed]
            rw [Hid, hw8, hw8]
            simp only [Lib.byteCells, List.map_cons, List.map_nil, e]
            show [Value.int .u8 _] = [Value.int .u8 _]
            congr 2
            omega
          clear HH
          generalize F :: Tr.pack (R.take m) = dk at *
          clear hcell
          go_wp2_with fail
          go_region_held3 (fun w' => w'.cell? ⟨b, off + m, none⟩ = some (.int .u8 (x.toNat : Nat)) ∧ w'.cell? ⟨b, off + (m + 1), none⟩ = some (.int .u8 (y.toNat : Nat))) (go_keep)
            ((go_loud (refine step_push_bytes rfl (.tmp 29) (.tmp 41) rfl [UInt8.ofNat (16 * x.toNat + y.toNat)] _ rfl rfl rfl HO1.out HB1.out (Nat.le_refl _) HZ.out HLN.out ?_); intro v' w' ho' hb'; have HO' := hid ho'; have HB' := hid hb'; have q0 := (hb'.cell (p := ⟨b, off + m, none⟩) hb).trans HE0.out; have q1 := (hb'.cell (p := ⟨b, off + (m + 1), none⟩) hb).trans HE1.out; clear ho' hb'))
          all_goals go_wp2_with fail
          all_goals exact ⟨⟨m + 2, by go_num, by omega, by have := HM2.out; omega, by rw [HPK.out]; exact HO'.out, HB'.out⟩, by simp [intOf]; omega⟩
        · obtain rfl : m = R.length := by omega
          have i2 : ¬ (R.length : Int) < (R.length : Int) := by omega
          have h3 := HH.out.2.1
          rw [List.take_length, ← HP.out] at h3
          have HB3 := hid HH.out.2.2
          have hcv := run_bytes_string (brd_of_bown h3)
          obtain ⟨a3, c3, rfl⟩ := bown_shape h3
          clear HH hlt h3 hv
          go_wp2_with fail
          go_ret
          exact ⟨rfl, HB3.out⟩
  · have HRD : Hid (Brd w.heap.size w (.slice (some ⟨b0, off0 + 1, none⟩) R.length (cap0 - 1)) R) := ((HDX.out _ (if_neg hc1).symm).brdC (Nat.le_refl _)).brd
    clear HDX hcap1
    cases leaf
    all_goals
      simp only [if_true, if_false, Bool.false_eq_true] at hF2
      rw [hF2] at HB0
      go_enter Try.func76, Try.ntmps76
      go_wp2_with fail
      clear g00
      generalize (some ⟨b0, off0 + 1, none⟩ : Option Addr) = a1 at *
      go_loopw [6, 7] (fun v i wr => ∃ m : Nat, i = .int .i64 m ∧ m ≤ R.length ∧ Hid (m % 2 = 0 ∧ Bown wr w.heap.size v (F :: Tr.pack (R.take m)) ∧ Below w.heap.size w wr)) (fun _ i _ => R.length + 2 - (intOf i).toNat)
      case atStart => exact ⟨0, rfl, Nat.zero_le _, rfl, by rw [List.take_zero]; exact HB0.out, (Below.refl _ _).alloc (Nat.le_refl _) _⟩
      case round =>
        obtain ⟨m, rfl, hk, HH⟩ := hrel
        obtain ⟨av, cv, hv⟩ := bown_shape HH.out.2.1
        by_cases hlt : m < R.length
        · have hlt1 : m + 1 < R.length := by have := HEV.out; have := HH.out.1; omega
          rcases HRD.out with ⟨_, h0⟩ | ⟨b, off, cap, hv2, hb, hcell⟩
          · rw [h0] at hlt; simp at hlt
          simp only [Value.slice.injEq] at hv2
          obtain ⟨hv2, _, hcc⟩ := hv2
          subst hv2
          subst hcc
          have e0 := hcell m hlt
          have e1 := hcell (m + 1) hlt1
          have g0 := (HH.out.2.2.cell (p := ⟨b, off + m, none⟩) hb).trans e0
          have g1 := (HH.out.2.2.cell (p := ⟨b, off + (m + 1), none⟩) hb).trans e1
          have HE0 := hid e0
          have HE1 := hid e1
          clear e0 e1
          have x16 := HR16.out _ (List.getElem_mem hlt)
          have y16 := HR16.out _ (List.getElem_mem hlt1)
          have HPK : Hid (F :: Tr.pack (R.take (m + 2)) = (F :: Tr.pack (R.take m)) ++ [UInt8.ofNat (16 * R[m].toNat + R[m + 1].toNat)]) := by
            rw [Hid, List.cons_append]
            congr 1
            rw [List.take_succ_eq_append_getElem hlt1, List.take_succ_eq_append_getElem hlt, List.append_assoc]
            exact Tr.pack_snoc _ _ _ (m / 2) (by rw [List.length_take]; have := HH.out.1; omega)
          have HLN : Hid ((F :: Tr.pack (R.take m)).length + 1 ≤ 1000000000) := by
            have := Tr.pack_le (R.take m)
            rw [List.length_take] at this
            rw [Hid, List.length_cons]
            have := HLL.out
            omega
          have HO1 : Hid (Bown wr.drew w.heap.size (.slice av (F :: Tr.pack (R.take m)).length cv) (F :: Tr.pack (R.take m))) := by rw [← hv]; exact HH.out.2.1
          have HB1 : Hid (Below w.heap.size w wr.drew) := HH.out.2.2.drew
          have HM2 := hid HH.out.1
          subst hv
          have i1 : (0 : Int) ≤ (m : Int) := by omega
          have i2 : (m : Int) < (R.length : Int) := by omega
          have i3 : (m : Int) + 1 < (R.length : Int) := by omega
          have i4 : (0 : Int) ≤ (m : Int) + 1 := by omega
          have hll := HLL.out
          have i5 : IntKind.i64.wrap ((m : Int) + 1) = (m : Int) + 1 := by rw [IntKind.wrap_i64]; omega
          have i6 : ((m : Int) + 1).toNat = m + 1 := by omega
          generalize R[m] = x at *
          generalize R[m + 1] = y at *
          have HZ : Hid (#[Value.int .u8 (IntKind.u8.wrap (IntKind.u8.wrap (16 * (x.toNat : Int)) + (y.toNat : Int)))].toList = Lib.byteCells [UInt8.ofNat (16 * x.toNat + y.toNat)]) := by
            have e : (UInt8.ofNat (16 * x.toNat + y.toNat)).toNat = 16 * x.toNat + y.toNat := by rw [UInt8.toNat_ofNat']; omega
            have hw8 : ∀ n : Int, IntKind.u8.wrap n = n % 256 := fun n => by simp [IntKind.wrap, IntKind.bits, IntKind.signed]
            rw [Hid, hw8, hw8]
            simp only [Lib.byteCells, List.map_cons, List.map_nil, e]
            show [Value.int .u8 _] = [Value.int .u8 _]
            congr 2
            omega
          clear HH
          generalize F :: Tr.pack (R.take m) = dk at *
          clear hcell
          go_wp2_with fail
          go_region_held3 (fun w' => w'.cell? ⟨b, off + m, none⟩ = some (.int .u8 (x.toNat : Nat)) ∧ w'.cell? ⟨b, off + (m + 1), none⟩ = some (.int .u8 (y.toNat : Nat))) (go_keep)
            ((go_loud (refine step_push_bytes rfl (.tmp 29) (.tmp 41) rfl [UInt8.ofNat (16 * x.toNat + y.toNat)] _ rfl rfl rfl HO1.out HB1.out (Nat.le_refl _) HZ.out HLN.out ?_); intro v' w' ho' hb'; have HO' := hid ho'; have HB' := hid hb'; have q0 := (hb'.cell (p := ⟨b, off + m, none⟩) hb).trans HE0.out; have q1 := (hb'.cell (p := ⟨b, off + (m + 1), none⟩) hb).trans HE1.out; clear ho' hb'))
          all_goals go_wp2_with fail
          all_goals exact ⟨⟨m + 2, by go_num, by omega, by have := HM2.out; omega, by rw [HPK.out]; exact HO'.out, HB'.out⟩, by simp [intOf]; omega⟩
        · obtain rfl : m = R.length := by omega
          have i2 : ¬ (R.length : Int) < (R.length : Int) := by omega
          have h3 := HH.out.2.1
          rw [List.take_length, ← HP.out] at h3
          have HB3 := hid HH.out.2.2
          have hcv := run_bytes_string (brd_of_bown h3)
          obtain ⟨a3, c3, rfl⟩ := bown_shape h3
          clear HH hlt h3 hv
          go_wp2_with fail
          go_ret
          exact ⟨rfl, HB3.out⟩
end Go.Proofs.Ytbmohenjphmlgaa
