/- Part 23 of a proof: what the last text needs. -/
import Derived.Test.YtbmohenjphmlgaaGreatPart17
import Derived.Test.YtbmohenjphmlgaaGreatPart22
import Derived.Test.YtbmohenjphmlgaaGreatPart20
import Derived.Shelf.SlMaps.Clone
/- The store of nodes in memory; the walk of Tell (of the program): it tells what the store tells. -/
namespace Go.Proofs.YtbmohenjphmlgaaGreat
open Go.RowKit
set_option maxRecDepth 100000

theorem zeroNode (w : World) : (zeroValue 86).run Tryz.prog w = .ok .nilIface w := by kernel_rfl
theorem storeKeyed : Maps.Keyed Tryz.prog 9 := Maps.string_keyed Tryz.underlying9

/-- The nodes of a store: those of the elements S, by their sums; nothing of them lies in a block of own, or from C on. -/
def NodesAt (own : Nat → Prop) (C : Nat) (w : World) (S : List (List UInt8)) (f : List UInt8 → Option Value) : Prop :=
  Tr.Lone S ∧ (∀ s, Tr.find S s = none → f s = none) ∧
    ∀ e ∈ S, ∃ v t lo B m, f (Tr.sum e) = some v ∧ Tr.reads e = some t ∧ e.length ≤ 1000 ∧ B ≤ C ∧ (∀ k, own k → k < lo ∨ B ≤ k) ∧ RN lo B w m v t

theorem nodesAt_turns {own : Nat → Prop} {w w' : World} {C C' : Nat} {S : List (List UInt8)} {f : List UInt8 → Option Value} (h : NodesAt own C w S f) (hs : C ≤ C') (ht : ∀ k, k < C → ¬ own k → w'.heap[k]? = w.heap[k]?) : NodesAt own C' w' S f := by
  obtain ⟨h3, h4, h5⟩ := h
  refine ⟨h3, h4, fun e he => ?_⟩
  obtain ⟨v, t, lo, B, m, g1, g2, g3, g4, g5, g6⟩ := h5 e he
  exact ⟨v, t, lo, B, m, g1, g2, g3, Nat.le_trans g4 hs, g5, rn_turn (Nat.le_refl _) (Nat.le_refl _) (fun k k1 k2 => ht k (by omega) (fun ho => by have := g5 k ho; omega)) _ _ _ g6⟩

/-- What a store has in memory: the elements S, by their sums; nothing of it lies in a block of own. -/
def StoreAt (own : Nat → Prop) (w : World) (b : Nat) (S : List (List UInt8)) (f : List UInt8 → Option Value) : Prop :=
  MapAt Tryz.prog 9 w b S.length f ∧ ¬ own b ∧ NodesAt own w.heap.size w S f

theorem storeAt_turns {own : Nat → Prop} {w w' : World} {b : Nat} {S : List (List UInt8)} {f : List UInt8 → Option Value} (h : StoreAt own w b S f) (hs : w.heap.size ≤ w'.heap.size) (ht : ∀ k, k < w.heap.size → ¬ own k → w'.heap[k]? = w.heap[k]?) : StoreAt own w' b S f := by
  obtain ⟨h1, h2, h3⟩ := h
  exact ⟨mapAt_frame h1 (ht b (mapAt_lt h1) h2), h2, nodesAt_turns h3 hs ht⟩

theorem storeAt_later {own : Nat → Prop} {w w' : World} {b : Nat} {S : List (List UInt8)} {f : List UInt8 → Option Value} (h : StoreAt own w b S f) (hb : Below w.heap.size w w') : StoreAt own w' b S f := storeAt_turns h hb.size (fun k hk _ => hb.block k hk)

theorem small_of {e : List UInt8} {t : Itm} (he : e.length ≤ 1000) (h : Tr.reads e = some t) : Small t ∧ e = Itm.enc t ∧ Tr.sound t = true := by
  obtain ⟨h1, h2⟩ := Tr.reads_some h
  obtain ⟨h3, h4⟩ := Tr.whole_enc_eq h1
  exact ⟨⟨h4, Tr.sound_deep h2, by rw [← h3]; exact he⟩, h3, h2⟩

theorem storeAt_node {own : Nat → Prop} {w : World} {b : Nat} {S : List (List UInt8)} {f : List UInt8 → Option Value} (h : StoreAt own w b S f) {s : List UInt8} {v : Value} (hv : f s = some v) : ∃ e t lo B m, Tr.find S s = some e ∧ Tr.reads e = some t ∧ e.length ≤ 1000 ∧ B ≤ w.heap.size ∧ (∀ k, own k → k < lo ∨ B ≤ k) ∧ RN lo B w m v t := by
  obtain ⟨h1, h2, h3, h4, h5⟩ := h
  cases hf : Tr.find S s with
  | none => rw [h4 s hf] at hv; cases hv
  | some e =>
    obtain ⟨he, hs⟩ := Tr.find_some hf
    obtain ⟨v', t, lo, B, m, g1, g2, g3, g4, g5, g6⟩ := h5 e he
    rw [hs, hv] at g1
    cases g1
    exact ⟨e, t, lo, B, m, rfl, g2, g3, g4, g5, g6⟩

theorem storeAt_none {own : Nat → Prop} {w : World} {b : Nat} {S : List (List UInt8)} {f : List UInt8 → Option Value} (h : StoreAt own w b S f) {s : List UInt8} (hv : f s = none) : Tr.find S s = none := by
  cases hf : Tr.find S s with
  | none => rfl
  | some e =>
    obtain ⟨he, hs⟩ := Tr.find_some hf
    obtain ⟨v', t, lo, B, m, g1, _⟩ := h.2.2.2.2 e he
    rw [hs, hv] at g1
    cases g1

theorem storeAt_isNode {own : Nat → Prop} {w : World} {b : Nat} {S : List (List UInt8)} {f : List UInt8 → Option Value} (h : StoreAt own w b S f) {s : List UInt8} {v : Value} (hv : f s = some v) : IsNode v := by
  obtain ⟨e, t, lo, B, m, _, h2, h3, _, _, h6⟩ := storeAt_node h hv
  exact rn_node (small_of h3 h2).1.pure h6

theorem look_node {w : World} {b n : Nat} {f : List UInt8 → Option Value} (h : MapAt Tryz.prog 9 w b n f) (s : ByteArray) (hs : s.size ≤ 1000) :
    (Instr.lookup 146 (.map (some b)) (.string s) true).run Tryz.prog w = .ok (.tuple #[(f s.data.toList).getD .nilIface, .bool (f s.data.toList).isSome]) w :=
  mapAt_look h storeKeyed Tryz.underlying146 Tryz.underlying9 (zeroNode w) s (by unfold maxLen; omega)

set_option maxHeartbeats 1600000 in
/-- The finder of Tell looks into the map. -/
theorem tell1_any (kb k2 k3 n : Nat) (f : List UInt8 → Option Value) (s : ByteArray) (y : Value) (w : World) (hs : s.size ≤ 1000) (hb : w.cell? ⟨kb, 0, none⟩ = some (.pointer (some ⟨k2, 0, none⟩))) (h2 : w.cell? ⟨k2, 0, none⟩ = some (.map (some k3))) (h3 : MapAt Tryz.prog 9 w k3 n f) (hk : kb < w.heap.size) (hk2 : k2 < w.heap.size) (hn : IsNode ((f s.data.toList).getD .nilIface)) :
    Calls Tryz.prog 100 #[.agg #[.string s, y], .pointer (some ⟨kb, 0, none⟩)] w fun e w' => e = .returned (.tuple #[(f s.data.toList).getD .nilIface, .bool (f s.data.toList).isSome]) ∧ Below w.heap.size w w' := by
  have c1 : (w.alloc (.cells #[.string s, y] 139)).cell? ⟨kb, 0, none⟩ = some (.pointer (some ⟨k2, 0, none⟩)) := (World.cell?_of_block (w := w) (Below.heap_alloc _ _ _ hk)).trans hb
  have c2 : (w.alloc (.cells #[.string s, y] 139)).cell? ⟨k2, 0, none⟩ = some (.map (some k3)) := (World.cell?_of_block (w := w) (Below.heap_alloc _ _ _ hk2)).trans h2
  have c3 : MapAt Tryz.prog 9 (w.alloc (.cells #[.string s, y] 139)) k3 n f := mapAt_frame h3 (Below.heap_alloc _ _ _ (mapAt_lt h3))
  have c4 : (w.alloc (.cells #[.string s, y] 139)).cell? ⟨w.heap.size, 0, none⟩ = some (.string s) := cell_of_row _ _ 0 _ _ _ (heap_alloc_new w _)
  have hl := fun q => look_node (w := (w.alloc (.cells #[.string s, y] 139)).drewN q) (mapAt_frame c3 rfl) s hs
  have HB : Hid (Below w.heap.size w (w.alloc (.cells #[.string s, y] 139))) := (Below.refl _ _).alloc (Nat.le_refl _) _
  clear hb h2 h3 c3
  generalize (f s.data.toList).getD .nilIface = v at *
  generalize (f s.data.toList).isSome = ok at *
  rcases hn with rfl | ⟨T, x, rfl⟩
  · go_enter Tryz.func100, Tryz.ntmps100
    go_wp2_with fail
    generalize hW : w.alloc (.cells #[.string s, y] 139) = W at *
    go_quiet (fail)
    go_wp2_with fail
    exact bodyPost_ret (v := .tuple #[.nilIface, .bool ok]) (by simp [results, Tryz.results100, go_sem]) rfl ⟨rfl, belowN HB.out⟩
  · go_enter Tryz.func100, Tryz.ntmps100
    go_wp2_with fail
    generalize hW : w.alloc (.cells #[.string s, y] 139) = W at *
    go_quiet (fail)
    go_wp2_with fail
    exact bodyPost_ret (v := .tuple #[.iface T x, .bool ok]) (by simp [results, Tryz.results100, go_sem]) rfl ⟨rfl, belowN HB.out⟩

theorem enters_tell : Enters 100 := fun args w => by kernel_rfl

/-- What Tell's finder needs. -/
structure Finds (own : Nat → Prop) (W : World) (kb k2 k3 : Nat) (S : List (List UInt8)) (f : List UInt8 → Option Value) : Prop where
  box : W.cell? ⟨kb, 0, none⟩ = some (.pointer (some ⟨k2, 0, none⟩))
  cell : W.cell? ⟨k2, 0, none⟩ = some (.map (some k3))
  kb : kb < W.heap.size
  k2 : k2 < W.heap.size
  store : StoreAt own W k3 S f

theorem finds_later {own : Nat → Prop} {W w : World} {kb k2 k3 : Nat} {S : List (List UInt8)} {f : List UInt8 → Option Value} (h : Finds own W kb k2 k3 S f) (hb : Below W.heap.size W w) : Finds own w kb k2 k3 S f :=
  ⟨(hb.cell (p := ⟨kb, 0, none⟩) h.kb).trans h.box, (hb.cell (p := ⟨k2, 0, none⟩) h.k2).trans h.cell, Nat.lt_of_lt_of_le h.kb hb.size, Nat.lt_of_lt_of_le h.k2 hb.size, storeAt_later h.store hb⟩

theorem finds_any {own : Nat → Prop} {W w : World} {kb k2 k3 : Nat} {S : List (List UInt8)} {f : List UInt8 → Option Value} (h : Finds own W kb k2 k3 S f) (hb : Below W.heap.size W w) (s : ByteArray) (hs : s.size ≤ 1000) (y : Value) :
    Calls Tryz.prog 100 #[.agg #[.string s, y], .pointer (some ⟨kb, 0, none⟩)] w fun e w' => ∃ v ok, e = .returned (.tuple #[v, .bool ok]) ∧ Below W.heap.size W w' ∧ (ok = false → Tr.find S s.data.toList = none) ∧
      (ok = true → ∃ e t lo B m, Tr.find S s.data.toList = some e ∧ Tr.reads e = some t ∧ e.length ≤ 1000 ∧ B ≤ W.heap.size ∧ RN lo B W m v t) := by
  have h' := finds_later h hb
  have hn : IsNode ((f s.data.toList).getD .nilIface) := by
    cases hf : f s.data.toList with
    | none => exact .inl rfl
    | some v => exact storeAt_isNode h.store hf
  refine (tell1_any kb k2 k3 S.length f s y w hs h'.box h'.cell h'.store.1 h'.kb h'.k2 hn).mono ?_
  rintro e w2 ⟨rfl, b2⟩
  refine ⟨_, _, rfl, hb.trans (b2.mono hb.size), fun ho => ?_, fun ho => ?_⟩
  · cases hf : f s.data.toList with
    | none => exact storeAt_none h.store hf
    | some v => rw [hf] at ho; cases ho
  · cases hf : f s.data.toList with
    | none => rw [hf] at ho; cases ho
    | some v =>
      obtain ⟨e, t, lo, B, m, g1, g2, g3, g4, _, g6⟩ := storeAt_node h.store hf
      exact ⟨e, t, lo, B, m, g1, g2, g3, g4, g6⟩

/-- What holds at a node on the way: R is what the store tells. -/
def TJ (W : World) (S : List (List UInt8)) (R : Option Tr.Way) (w : World) (v : Value) (d : ByteArray) : Prop :=
  Below W.heap.size W w ∧ ∃ f t m lo B, B ≤ W.heap.size ∧ RN lo B W m v t ∧ Small t ∧ (∀ c ∈ d.data.toList, c.toNat < 16) ∧ d.size ≤ f ∧ R = Tr.thru S f (Tr.goes t d.data.toList false)

/-- What holds at the end of the way. -/
def TQ (W : World) (R : Option Tr.Way) (x : ByteArray) (ok : Bool) (w : World) : Prop :=
  Below W.heap.size W w ∧ (ok = true → Tr.tellEnd R = (x.data.toList, !x.data.toList.isEmpty, 0)) ∧ (ok = false → Tr.tellEnd R = ([], false, 11))

section
variable {own : Nat → Prop} {W : World} {kb k2 k3 : Nat} {S : List (List UInt8)} {F : List UInt8 → Option Value} (hfs : Finds own W kb k2 k3 S F)
include hfs

/-- A reference by a sum is followed in the store. -/
theorem follow_tell {w : World} {v n : Value} {k : Nat} {l : Bool} {s0 : ByteArray} {a0 : Option Addr} {n0 cap0 : Nat} {R : Option Tr.Way} {s rest : ByteArray} {f : Nat} {br : Bool} (hnd : Nd v k l s0 a0 n0 cap0) (hn : IsNode n) (hs : s.size = 8) (hbr : br = decide (k = 2)) (hB : Below W.heap.size W w)
    (hd : ∀ c ∈ rest.data.toList, c.toNat < 16) (hf : rest.size < f) (hR : R = Tr.tellW S f ⟨rest.data.toList, br, [], false, s.data.toList⟩) :
    Calls Tryz.prog 122 #[v, .agg #[.string s, n], .func (.func 100) #[] #[.pointer (some ⟨kb, 0, none⟩)]] w fun e w' => ∃ v' ok, e = .returned (.tuple #[v', .bool ok]) ∧ (ok = true → TJ W S R w' v' rest) ∧ (ok = false → TQ W R ⟨#[]⟩ false w') := by
  have hsl : s.data.toList.length = 8 := by rw [ba_len]; exact hs
  have hne : s.data.toList ≠ [] := fun e => by rw [e] at hsl; simp at hsl
  obtain ⟨f, rfl⟩ : ∃ f', f = f' + 1 := ⟨f - 1, by omega⟩
  refine follow_sum w enters_tell hn (by omega) (fun v' ok w' => (ok = true → TJ W S R w' v' rest) ∧ (ok = false → TQ W R ⟨#[]⟩ false w')) ?_
  intro w1 b1
  have hB1 : Below W.heap.size W w1 := hB.trans (b1.mono hB.size)
  refine (finds_any hfs hB1 s (by omega) n).mono ?_
  rintro e w2 ⟨v2, ok, rfl, hB2, g2, g1⟩
  refine ⟨v2, ok, rfl, fun h => ?_, fun h => ?_⟩
  · subst h
    refine ⟨fun h => (by cases h), fun _ => ⟨hB2, (fun h => by cases h), fun _ => ?_⟩⟩
    rw [hR, Tr.tellW_lost hne (g2 rfl)]
    rfl
  · subst h
    obtain ⟨e, t', lo', B', m', e0, e2, ez, e3, e4⟩ := g1 rfl
    obtain ⟨hsm, henc, hsd⟩ := small_of ez e2
    obtain ⟨k', l', s', a', n', cap', hnd', hrep', _, hk'⟩ := rn_nd hsm.pure e4
    obtain ⟨m', rfl⟩ : ∃ m, m' = m + 1 := by
      cases m' with
      | zero => exact e4.elim
      | succ m => exact ⟨m, rfl⟩
    have hsum := (Tr.find_some e0).2
    refine (mayFollow_any w2 hnd hnd' hsm (rep_wider (Nat.le_trans e3 hB2.size) _ _ _ (rep_frame (hB2.mono e3) _ _ _ hrep'))).mono ?_
    rintro e' w3 ⟨rfl, b3⟩
    have hB3 : Below W.heap.size W w3 := hB2.trans (b3.mono hB2.size)
    have hfin : R = Tr.thru S f (if (Itm.enc t').length < 8 then none else Tr.goes t' rest.data.toList br) := by
      rw [hR, Tr.tellW_next hne e0, Tr.vstep_reads, e2]
      congr 1
      rw [henc]
      by_cases h8 : (Itm.enc t').length < 8
      · rw [if_pos h8, if_pos]
        simp [h8]
      · rw [if_neg h8, if_neg]
        rw [← henc]
        simp only [Bool.or_eq_true, decide_eq_true_eq, bne_iff_ne, ne_eq, Bool.and_eq_true]
        rintro ((h | h) | h)
        · exact hne h
        · exact h hsum
        · rw [henc] at h; exact h8 h.2
    refine ⟨_, rfl, fun h => ?_, fun h => ?_⟩
    · unfold mayB at h
      simp only [Bool.and_eq_true, Bool.not_eq_true', decide_eq_false_iff_not, Bool.or_eq_true, decide_eq_true_eq] at h
      refine ⟨hB3, f, t', _, lo', B', e3, e4, hsm, hd, by omega, ?_⟩
      rw [hfin, if_neg h.1]
      congr 1
      cases br with
      | false => rfl
      | true =>
        have h2 : k = 2 := of_decide_eq_true hbr.symm
        rcases h.2 with h | h
        · exact absurd h2 h
        · exact Tr.goes_true _ (hk'.1 h)
    · refine ⟨hB3, (fun h => by cases h), fun _ => ?_⟩
      rw [hfin]
      split
      · rfl
      · rename_i h8
        unfold mayB at h
        rw [decide_eq_false h8] at h
        simp only [Bool.not_false, Bool.true_and, Bool.or_eq_false_iff, decide_eq_false_iff_not, Decidable.not_not] at h
        have hb : Tr.isBranch t' = false := by
          cases hb : Tr.isBranch t' with
          | false => rfl
          | true => exact absurd (hk'.2 hb) h.2
        rw [hbr, decide_eq_true h.1, Tr.goes_stop _ hb]
        rfl

theorem way_tell (R : Option Tr.Way) (w : World) (v : Value) (d : ByteArray) (h : TJ W S R w v d) : Way 100 ⟨kb, 0, none⟩ (TJ W S R) (TQ W R) w v d := by
  obtain ⟨hB, f, t, m, lo, B, hBW, hrn, hsm, hd, hdf, hR⟩ := h
  have ends : ∀ (x : ByteArray) (y : Tr.Way), Tr.goes t d.data.toList false = some y → y.need = [] → y.value = x.data.toList → y.found = !x.data.toList.isEmpty → ∀ w', Below w.heap.size w w' → TQ W R x true w' := by
    intro x y he hn hv hf w' b
    refine ⟨hB.trans (b.mono hB.size), fun _ => ?_, fun h => by cases h⟩
    rw [hR, he, Tr.thru_some, Tr.tellW_end hn]
    show (y.value, y.found, 0) = _
    rw [hv, hf]
  cases m with
  | zero => exact hrn.elim
  | succ m =>
    have nb : t.items.length = 2 → Tr.isBranch t = false := fun h => by unfold Tr.isBranch; rw [h]; simp
    have ne : t.list = true → Tr.isEmpty t = false := fun h => by unfold Tr.isEmpty; rw [h]; rfl
    rcases hrn with ⟨he, rfl⟩ | ⟨a1, cap, q, x, h0, h1, h2, h3, h4, h5, rfl⟩ | ⟨a1, cap, q, s, h0, h1, h2, h3, h4, h5, h6, rfl⟩ | ⟨a1, cap, cs, x, h1, h2, h3, h4, rfl, h6⟩
    · exact ⟨_, _, _, _, _, steps_empty d, .inl rfl, fun _ => ends _ _ (Tr.goes_empty _ he) rfl rfl rfl, fun h => by cases h⟩
    · refine ⟨_, _, _, _, _, steps_leaf a1 cap q x d, .inl rfl, fun _ => ?_, fun h => by cases h⟩
      have hg := Tr.goes_leaf d.data.toList q.data.toList (nb h1) (ne h0) h3
      by_cases hq : d = q
      · rw [if_pos hq]
        rw [if_pos (by rw [hq])] at hg
        refine ends _ _ hg rfl h5.symm ?_
        rw [h5]
        unfold Tr.isValue at h4
        simp only [Bool.and_eq_true, decide_eq_true_eq] at h4
        cases hb : (Tr.kid t 1).bytes with
        | nil => rw [hb] at h4; simp at h4
        | cons c r => rfl
      · rw [if_neg hq]
        rw [if_neg (fun e => hq (by cases d; cases q; simp_all))] at hg
        exact ends _ _ hg rfl rfl rfl
    · have hs8 : s.size = 8 := by rw [← ba_len, h6]; exact sum_eight h5
      refine ⟨_, _, _, _, _, steps_ext a1 cap q s d _ (.inl rfl), .inl rfl, fun hn => ?_, fun hp => ?_⟩
      · refine ends _ _ (Tr.goes_miss d.data.toList q.data.toList (nb h1) (ne h0) h3 ?_) rfl rfl rfl
        by_cases hlt : d.data.toList.length < q.data.toList.length
        · exact .inl hlt
        · right
          intro e
          have : pre q d = true := by
            unfold pre
            rw [List.isPrefixOf_iff_prefix, ← e]
            exact List.take_prefix _ _
          rw [hn] at this
          cases this
      · have hcut := cutP_list hp
        have hle := pre_size hp
        have hpre : q.data.toList <+: d.data.toList := List.isPrefixOf_iff_prefix.1 hp
        have hrest : (cutP q d).size < d.size := by rw [← ba_len, hcut, ← ba_len d, List.length_drop, ba_len]; omega
        refine ⟨hrest, fun w' b => ?_⟩
        refine follow_tell hfs (nd_ext a1 cap q s .nilIface) (.inl rfl) hs8 (br := true) rfl (hB.trans (b.mono hB.size)) ?_ (f := f) (by omega) ?_
        · rw [hcut]; exact fun c hc => hd c (List.mem_of_mem_drop hc)
        · rw [hR, Tr.goes_hit d.data.toList q.data.toList (nb h1) (ne h0) h1 h3 (by rw [ba_len, ba_len]; omega) (List.prefix_iff_eq_take.1 hpre).symm]
          unfold Tr.refers Tr.refersOf
          rw [if_pos h5, hcut, ba_len, h6]
          rfl
    · cases hdl : d.data.toList with
      | nil =>
        have : d = ⟨#[]⟩ := by cases d; simp_all
        subst this
        refine ⟨_, _, _, _, _, steps_end a1 cap cs x h3, .inl rfl, fun _ => ends _ _ (Tr.goes_end false h1) rfl h4.symm (by rw [h4]; rfl), fun h => by cases h⟩
      | cons c r =>
        have hc : c.toNat < 16 := hd c (by rw [hdl]; exact List.mem_cons_self ..)
        obtain ⟨s, vd, g1, g2, g3⟩ := h6 c.toNat hc
        have hkid : Small (Tr.kid t c.toNat) := kid_small hsm (by rw [Tr.branch_len h1]; omega)
        have hdown := Tr.goes_down c r false h1 (by omega)
        have hdr : ∀ y ∈ (⟨r.toArray⟩ : ByteArray).data.toList, y.toNat < 16 := fun y hy => hd y (by rw [hdl]; exact List.mem_cons_of_mem _ hy)
        have hsz' : (⟨r.toArray⟩ : ByteArray).size < d.size := by
          show r.toArray.size < d.size
          rw [← ba_len d, hdl, List.size_toArray, List.length_cons]; omega
        rw [hdl, hdown] at hR
        unfold Tr.refers Tr.refersOf at hR
        rcases g3 with ⟨k1, k2', rfl⟩ | ⟨k1, rfl, k3', k4⟩
        · rw [if_pos k1] at hR
          refine ⟨_, _, _, _, _, steps_branch a1 cap cs x d h3 c r hdl hc _ _ (.inl rfl) g1 g2, .inl rfl, (fun h => by cases h), fun _ => ⟨hsz', fun w' b => ?_⟩⟩
          exact follow_tell hfs (nd_branch a1 cap cs x) (.inl rfl) (by rw [← ba_len, k2']; exact sum_eight k1) (br := false) rfl (hB.trans (b.mono hB.size)) hdr (f := f) (by omega) (by rw [hR, k2']; rfl)
        · rw [if_neg (by rw [k1]; decide)] at hR
          have hin := rn_node hkid.pure k3'
          refine ⟨_, _, _, _, _, steps_branch a1 cap cs x d h3 c r hdl hc _ _ hin g1 g2, hin, (fun h => by cases h), fun _ => ⟨hsz', fun w' b => ?_⟩⟩
          refine (follow_own w' hin).mono ?_
          rintro e w2 ⟨rfl, b2⟩
          have hB' : Below W.heap.size W w' := hB.trans (b.mono hB.size)
          exact ⟨_, _, rfl, fun _ => ⟨hB'.trans (b2.mono hB'.size), f, _, m, lo, B, hBW, k3', hkid, hdr, by omega, hR⟩, fun h => by cases h⟩

/-- The first node of the way. -/
theorem root_tell {root d : ByteArray} (hr : root.size = 8) (hd : ∀ c ∈ d.data.toList, c.toNat < 16) (hd20 : d.size ≤ 20) {key : List UInt8} (hkd : Tr.digits key = d.data.toList) {w : World} (hB : Below W.heap.size W w) :
    Calls Tryz.prog 100 #[.agg #[.string root, .nilIface], .pointer (some ⟨kb, 0, none⟩)] w fun e w' => ∃ v' ok, e = .returned (.tuple #[v', .bool ok]) ∧ (ok = true → TJ W S (Tr.tellR S root.data.toList key) w' v' d) ∧ (ok = false → TQ W (Tr.tellR S root.data.toList key) ⟨#[]⟩ false w') := by
  have hrl : root.data.toList.length = 8 := by rw [ba_len]; exact hr
  have hne : root.data.toList ≠ [] := fun e => by rw [e] at hrl; simp at hrl
  refine (finds_any hfs hB root (by omega) .nilIface).mono ?_
  rintro e w2 ⟨v2, ok, rfl, hB2, g2, g1⟩
  refine ⟨v2, ok, rfl, fun h => ?_, fun h => ?_⟩
  · subst h
    obtain ⟨e, t', lo', B', m', e0, e2, ez, e3, e4⟩ := g1 rfl
    obtain ⟨hsm, henc, hsd⟩ := small_of ez e2
    have hsum := (Tr.find_some e0).2
    refine ⟨hB2, 20, t', m', lo', B', e3, e4, hsm, hd, hd20, ?_⟩
    unfold Tr.tellR
    rw [e0]
    show Tr.thru S 20 _ = _
    congr 1
    rw [Tr.vstep_reads, e2, if_neg]
    · rw [hkd]
    · simp only [Bool.or_eq_true, decide_eq_true_eq, bne_iff_ne, ne_eq, Bool.and_eq_true]
      rintro ((h | h) | h)
      · exact hne h
      · exact h hsum
      · omega
  · subst h
    refine ⟨hB2, (fun h => by cases h), fun _ => ?_⟩
    unfold Tr.tellR
    rw [g2 rfl]
    rfl
end

set_option maxHeartbeats 1600000 in
/-- Tell tells what the store tells. -/
theorem tell_any {own : Nat → Prop} (k2 k3 : Nat) (S : List (List UInt8)) (F : List UInt8 → Option Value) (r key : ByteArray) (w : World) (hr : r.size = 8) (h2 : w.heap[k2]? = some (.cells #[.map (some k3)] 148 (0, 0))) (h3 : StoreAt own w k3 S F) :
    Calls Tryz.prog 59 #[.pointer (some ⟨k2, 0, none⟩), .string r, .string key] w fun e w' => ∃ s b n, e = .returned (.tuple #[.string s, .bool b, .int .i64 n]) ∧ (∃ N : Nat, n = N ∧ Tr.tell S r.data.toList key.data.toList = (s.data.toList, b, N)) ∧ Below w.heap.size w w' := by
  by_cases h6 : 6 < key.size
  · refine (tell_key k2 r key w h6).mono ?_
    rintro e w' ⟨rfl, b⟩
    refine ⟨_, _, _, rfl, ⟨3, rfl, ?_⟩, b⟩
    unfold Tr.tell
    rw [if_pos (by rw [ba_len]; exact h6)]
  have h : key.size ≤ 6 := by omega
  have HTL : Hid (Tr.tell S r.data.toList key.data.toList = Tr.tellEnd (Tr.tellR S r.data.toList key.data.toList)) := if_neg (by rw [ba_len]; exact h6)
  have HK := hid (fun s w => isLongKey_any s w)
  have HD := hid (fun w => digitsOf_any key w (by omega))
  have HDL := hid (Tr.digits_lt key.data.toList)
  have HDZ : Hid ((⟨(Tr.digits key.data.toList).toArray⟩ : ByteArray).size ≤ 20) := by
    show (Tr.digits key.data.toList).toArray.size ≤ 20
    rw [List.size_toArray, Tr.digits_len, ba_len]; omega
  have HR := hid hr
  have H2 := hid h2
  have H3 := hid h3
  have HL : Hid (decide ((6 : Int) < key.size) = false) := decide_eq_false (by omega)
  clear h2 h3 h6 h hr
  go_enter Tryz.func59, Tryz.ntmps59
  go_wp2_with fail
  refine (HK.out _ _).mono ?_
  rintro e w1 ⟨rfl, hw⟩
  obtain rfl := hw.symm
  rw [HL.out]
  go_wp2_with fail
  refine (HD.out _).mono ?_
  rintro e w2 ⟨rfl, b2⟩
  have HA : Hid (Below w.heap.size w (w.alloc (.cells #[.pointer (some ⟨k2, 0, none⟩)] 91))) := (Below.refl _ _).alloc (Nat.le_refl _) _
  have HB2 : Hid (Below w.heap.size w w2) := HA.out.trans (b2.mono HA.out.size)
  have HX2 : Hid (w2.heap[w.heap.size]? = some (.cells #[.pointer (some ⟨k2, 0, none⟩)] 91 (0, 0))) := (b2.block _ (by rw [alloc_size]; omega)).trans (heap_alloc_new w _)
  have HY2 : Hid (w2.heap[k2]? = some (.cells #[.map (some k3)] 148 (0, 0))) := (HB2.out.block _ (Array.getElem?_eq_some_iff.1 H2.out).1).trans H2.out
  have HF : Hid (Finds own w2 w.heap.size k2 k3 S F) := ⟨cell_of_row _ _ 0 _ _ _ HX2.out, cell_of_row _ _ 0 _ _ _ HY2.out, (Array.getElem?_eq_some_iff.1 HX2.out).1, (Array.getElem?_eq_some_iff.1 HY2.out).1, storeAt_later H3.out HB2.out⟩
  clear b2
  go_wp2_with fail
  refine (walk_any 100 enters_tell ⟨w.heap.size, 0, none⟩ r .nilIface (.inl rfl) ⟨(Tr.digits key.data.toList).toArray⟩ w2 (TJ w2 S (Tr.tellR S r.data.toList key.data.toList)) (TQ w2 (Tr.tellR S r.data.toList key.data.toList)) (fun w' hb => root_tell HF.out HR.out HDL.out HDZ.out rfl hb) (fun w v d hj => way_tell HF.out _ w v d hj)).mono ?_
  rintro e w3 ⟨x, ok, rfl, b3, q1, q2⟩
  have HB3 : Hid (Below w.heap.size w w3) := HB2.out.trans (b3.mono HB2.out.size)
  cases ok with
  | false =>
    have HQ := hid (q2 rfl)
    clear b3 q1 q2
    go_wp2_with fail
    exact bodyPost_ret (v := .tuple #[.string ⟨#[]⟩, .bool false, .int .i64 11]) (by simp [results, Tryz.results59, go_sem]) rfl ⟨_, _, _, rfl, ⟨11, rfl, by rw [HTL.out, HQ.out]⟩, HB3.out⟩
  | true =>
    have HQ := hid (q1 rfl)
    have HE : Hid ((!(x.toList == [])) = !x.data.toList.isEmpty) := by
      show (!(x.toList == [])) = !x.data.toList.isEmpty
      rw [ByteArray.toList_eq]
      cases x.data.toList <;> rfl
    clear b3 q1 q2
    go_wp2_with fail
    refine bodyPost_ret (v := .tuple #[.string x, .bool (!(x.toList == [])), .int .i64 0]) (by simp [results, Tryz.results59, go_sem]) rfl ⟨_, _, _, rfl, ⟨0, rfl, ?_⟩, HB3.out⟩
    rw [HE.out, HTL.out, HQ.out]
end Go.Proofs.YtbmohenjphmlgaaGreat

/- The walks of Kept and of Add (of the program). -/
namespace Go.Proofs.YtbmohenjphmlgaaGreat
open Go.RowKit
set_option maxRecDepth 100000

theorem cloneMap_any (b : Nat) (es : Array MapEntry) (clock : Nat) (w : World) (hb : w.heap[b]? = some (.map es clock)) :
    Calls Tryz.prog 99 #[.map (some b)] w fun e w' => e = .returned (.map (some w.heap.size)) ∧ w' = w.alloc (.map es clock) := by
  have hq := fun w => run_eql_map_nil_sl (P := Tryz.prog) w 146 _ _ (some b) Tryz.underlying146
  have hc : ∀ args w, (callFunc 126 args).run Tryz.prog w = ((Extern.MapsClone.clone args).run Tryz.prog w).andThen fun v w' => .ok (.value v) w' := fun args w => run_callFunc_extern Tryz.func126 (by kernel_rfl) (by kernel_rfl) (by kernel_rfl) (e := Extern.MapsClone.clone) (by kernel_rfl) args w
  go_enter Tryz.func99, Tryz.ntmps99
  go_wp2_with fail
  rw [run_maps_clone_sl w _ hb]
  simp only [Result.andThen]
  rw [Oper.upon_value]
  go_wp2_with fail
  rw [run_typeAssert_map_sl _ 146 _ _ _ _ Tryz.underlying146]
  simp only [Result.andThen]
  rw [Oper.upon_value]
  go_wp2_with fail
  go_ret
  exact ⟨rfl, rfl⟩

theorem count_any (k2 k3 n : Nat) (f : List UInt8 → Option Value) (w : World) (h2 : w.heap[k2]? = some (.cells #[.map (some k3)] 148 (0, 0))) (h3 : MapAt Tryz.prog 9 w k3 n f) :
    Calls Tryz.prog 58 #[.pointer (some ⟨k2, 0, none⟩)] w fun e w' => e = .returned (.int .i64 n) ∧ w' = w := by
  have hl := fun ty => mapAt_len h3 Tryz.underlying146 ty
  have c0 := cell_of_row _ _ 0 _ _ _ h2
  clear h2 h3
  go_enter Tryz.func58, Tryz.ntmps58
  go_wp2_with fail
  go_ret
  exact ⟨rfl, rfl⟩

theorem kept_in (k1 k2 k3 n : Nat) (hv : Value) (f : List UInt8 → Option Value) (w : World) (h1 : w.heap[k1]? = some (.cells #[hv, .pointer (some ⟨k2, 0, none⟩)] 94 (0, 0))) (h2 : w.heap[k2]? = some (.cells #[.map (some k3)] 148 (0, 0))) (h3 : MapAt Tryz.prog 9 w k3 n f) :
    Calls Tryz.prog 33 #[.pointer (some ⟨k1, 0, none⟩)] w fun e w' => e = .returned (.int .i64 n) ∧ w' = w := by
  have HC := hid (count_any k2 k3 n f w h2 h3)
  have c0 := cell_of_row _ _ 1 _ _ _ h1
  clear h1 h2 h3
  go_enter Tryz.func33, Tryz.ntmps33
  go_wp2_with fail
  refine HC.out.mono ?_
  rintro e w1 ⟨rfl, hw⟩
  obtain rfl := hw.symm
  go_wp2_with fail
  go_ret
  exact ⟨rfl, rfl⟩

theorem kept_any (k0 k1 k2 k3 n : Nat) (hv : Value) (f : List UInt8 → Option Value) (w : World) (h0 : w.heap[k0]? = some (.cells #[.pointer (some ⟨k1, 0, none⟩)] 71 (0, 0))) (h1 : w.heap[k1]? = some (.cells #[hv, .pointer (some ⟨k2, 0, none⟩)] 94 (0, 0))) (h2 : w.heap[k2]? = some (.cells #[.map (some k3)] 148 (0, 0))) (h3 : MapAt Tryz.prog 9 w k3 n f) :
    Calls Tryz.prog 19 #[.pointer (some ⟨k0, 0, none⟩)] w fun e w' => e = .returned (.int .i64 n) ∧ w' = w := by
  have HC := hid (kept_in k1 k2 k3 n hv f w h1 h2 h3)
  have c0 := cell_of_row _ _ 0 _ _ _ h0
  clear h0 h1 h2 h3
  go_enter Tryz.func19, Tryz.ntmps19
  go_wp2_with fail
  refine HC.out.mono ?_
  rintro e w1 ⟨rfl, hw⟩
  obtain rfl := hw.symm
  go_wp2_with fail
  go_ret
  exact ⟨rfl, rfl⟩

theorem nodesAt_add {own : Nat → Prop} {C : Nat} {w : World} {T : List (List UInt8)} {F : List UInt8 → Option Value} (h : NodesAt own C w T F) {e : List UInt8} {v : Value} {t : Itm} {lo B m : Nat} (hf : F (Tr.sum e) = none) (h1 : Tr.reads e = some t) (h2 : e.length ≤ 1000) (h3 : B ≤ C) (h4 : ∀ k, own k → k < lo ∨ B ≤ k) (h5 : RN lo B w m v t) :
    NodesAt own C w (Tr.add T e) (fun x => if x = Tr.sum e then some v else F x) ∧ Tr.add T e = T ++ [e] := by
  obtain ⟨g1, g2, g3⟩ := h
  have hn : Tr.find T (Tr.sum e) = none := by
    cases hx : Tr.find T (Tr.sum e) with
    | none => rfl
    | some x =>
      obtain ⟨hm, hs⟩ := Tr.find_some hx
      obtain ⟨v', _, _, _, _, q, _⟩ := g3 x hm
      rw [hs, hf] at q
      cases q
  have he : Tr.add T e = T ++ [e] := by unfold Tr.add; rw [hn]; rfl
  refine ⟨?_, he⟩
  rw [he]
  refine ⟨g1.snoc hn, fun s hs => ?_, fun x hx => ?_⟩
  · rw [Tr.find_append] at hs
    cases hq : Tr.find T s with
    | some y => rw [hq] at hs; cases hs
    | none =>
      rw [hq, Tr.find_one] at hs
      by_cases hse : Tr.sum e = s
      · rw [if_pos hse] at hs; cases hs
      · dsimp only
        rw [if_neg (fun q => hse q.symm)]
        exact g2 s hq
  · rcases List.mem_append.1 hx with hx | hx
    · obtain ⟨v', t', lo', B', m', q1, q2⟩ := g3 x hx
      refine ⟨v', t', lo', B', m', ?_, q2⟩
      dsimp only
      rw [if_neg (Tr.find_none.1 hn x hx)]
      exact q1
    · rw [List.mem_singleton.1 hx]
      exact ⟨v, t, lo, B, m, if_pos rfl, h1, h2, h3, h4, h5⟩

theorem nodesAt_old {own : Nat → Prop} {C : Nat} {w : World} {T : List (List UInt8)} {F : List UInt8 → Option Value} (h : NodesAt own C w T F) {e : List UInt8} {v : Value} (hf : F (Tr.sum e) = some v) : Tr.add T e = T ∧ IsNode v := by
  obtain ⟨g1, g2, g3⟩ := h
  cases hx : Tr.find T (Tr.sum e) with
  | none => rw [g2 _ hx] at hf; cases hf
  | some x =>
    obtain ⟨hm, hs⟩ := Tr.find_some hx
    obtain ⟨v', t, lo, B, m, q1, q2, q3, q4, q5, q6⟩ := g3 x hm
    rw [hs, hf] at q1
    cases q1
    exact ⟨by unfold Tr.add; rw [hx]; rfl, rn_node (small_of q3 q2).1.pure q6⟩

/-- What is kept when a proof is offered, and what is answered. -/
def offerTo (S : List (List UInt8)) (root key : List UInt8) (p : List (List UInt8)) : Nat × List (List UInt8) :=
  if (Tr.verify root key p).2.2 ≠ 0 then ((Tr.verify root key p).2.2, S)
  else if 200 < (Tr.addAll S p).length then (9, S)
  else (0, Tr.addAll S p)

def AddOk (own : Nat → Prop) (k2 : Nat) (S : List (List UInt8)) (root key : ByteArray) (p : List ByteArray) (w : World) (e : Ending) (w' : World) : Prop :=
  ∃ k3' F', e = .returned (.int .i64 ((offerTo S root.data.toList key.data.toList (bl p)).1 : Int)) ∧ w'.heap[k2]? = some (.cells #[.map (some k3')] 148 (0, 0)) ∧ StoreAt own w' k3' (offerTo S root.data.toList key.data.toList (bl p)).2 F' ∧ Turns (fun k => k = k2) w w'

/-- What holds while the nodes of a proof are added to a copy of the map. -/
def AddAt (own : Nat → Prop) (W : World) (S : List (List UInt8)) (p : List ByteArray) (k : Nat) (wr : World) : Prop :=
  Below W.heap.size W wr ∧ ∃ F, MapAt Tryz.prog 9 wr W.heap.size (Tr.addAll S (bl (p.take k))).length F ∧ NodesAt own W.heap.size W (Tr.addAll S (bl (p.take k))) F

theorem bl_append (p q : List ByteArray) : bl (p ++ q) = bl p ++ bl q := by simp [bl]

theorem addAt_end {own : Nat → Prop} {W wr : World} {S : List (List UInt8)} {p : List ByteArray} (hn : ∀ k, own k → k < W.heap.size) (h : AddAt own W S p p.length wr) : ∃ F, StoreAt own wr W.heap.size (Tr.addAll S (bl p)) F := by
  obtain ⟨hb, F, h1, h2⟩ := h
  rw [List.take_length] at h1 h2
  exact ⟨F, h1, fun ho => Nat.lt_irrefl _ (hn _ ho), nodesAt_turns h2 hb.size (fun k hk _ => hb.block k hk)⟩

set_option maxHeartbeats 3200000 in
theorem add_any {own : Nat → Prop} (k2 k3 : Nat) (S : List (List UInt8)) (F : List UInt8 → Option Value) (root key : ByteArray) (a : Option Addr) (cap : Nat) (p : List ByteArray) (w : World) (hS : S.length ≤ 1000) (h2 : w.heap[k2]? = some (.cells #[.map (some k3)] 148 (0, 0))) (h3 : StoreAt own w k3 S F) (hn : ∀ k, own k → k < w.heap.size) (hk2 : own k2) (hr : SRd w.heap.size w a p) :
    Calls Tryz.prog 57 #[.pointer (some ⟨k2, 0, none⟩), .string root, .string key, .slice a p.length cap] w (AddOk own k2 S root key p w) := by
  have HC := hid (check_any root key a cap p w hr)
  have H2 := hid h2
  have H3 := hid h3
  have HN := hid hn
  have HK2 := hid hk2
  have HV : Hid ((Tr.verify root.data.toList key.data.toList (bl p)).2.2 = 0 → p.length ≤ 20 ∧ ∀ s ∈ p, s.size ≤ 1000) := fun hv => by
    by_cases hf : pfault root key p = 0
    · exact ⟨(pfault_none hf).2.2.1, (pfault_none hf).2.2.2⟩
    · rw [pfault_verify hf] at hv; exact absurd hv hf
  clear h2 h3 hn hk2 hr
  go_enter Tryz.func57, Tryz.ntmps57
  go_wp2_with fail
  refine HC.out.mono ?_
  rintro e w1 ⟨r, s, N, rfl, b1, hv, h0, h1⟩
  by_cases hN : N = 0
  · subst hN
    obtain ⟨vs, ho, hno⟩ := h1 rfl
    obtain ⟨a1, c1, rfl, _⟩ := nown_shape ho
    have HVS : Hid (vs.length = p.length) := hno.1
    rw [HVS.out] at ho hno ⊢
    have HRD := hid (nown_rd ho)
    have HNO := hid hno
    have HB1 := hid b1
    have H20 := hid (HV.out (by rw [hv]))
    have hp20 : p.length ≤ 20 := H20.out.1
    have HV0 : Hid ((Tr.verify root.data.toList key.data.toList (bl p)).2.2 = 0) := by rw [Hid, hv]
    have HS1 := hid (storeAt_later H3.out b1)
    have c0 := (cell_of_row _ _ 0 _ _ _ ((b1.block _ (Array.getElem?_eq_some_iff.1 H2.out).1).trans H2.out)).trans rfl
    have HK : Hid (w1.heap[k2]? = some (.cells #[.map (some k3)] 148 (0, 0))) := (b1.block _ (Array.getElem?_eq_some_iff.1 H2.out).1).trans H2.out
    obtain ⟨es, clock, hes, hcl⟩ := mapAt_clone HS1.out.1
    have HCL := hid hcl
    have HCM := hid (cloneMap_any k3 es clock w1 hes)
    have HBN : Hid (∀ k, own k → k < w1.heap.size) := fun k hk => Nat.lt_of_lt_of_le (HN.out k hk) b1.size
    clear ho hno h0 h1 hv b1 HC hes hcl
    go_wp2_with fail
    refine HCM.out.mono ?_
    rintro e w2 ⟨rfl, rfl⟩
    have HA0 : Hid (AddAt own w1 S p 0 (w1.alloc (.map es clock))) := ⟨(Below.refl _ _).alloc (Nat.le_refl _) _, F, HCL.out _ _ (heap_alloc_new w1 _), HS1.out.2.2⟩
    go_wp2_with fail
    go_loopw [36] (fun i wr => ∃ k : Nat, i = .int .i64 k ∧ k ≤ p.length ∧ Hid (AddAt own w1 S p k wr)) (fun i _ => p.length - (intOf i).toNat)
    case atStart => exact ⟨0, rfl, Nat.zero_le _, HA0.out⟩
    case round =>
      obtain ⟨k, rfl, hk, HH⟩ := hrel
      clear HA0
      by_cases hlt : k < p.length
      · obtain ⟨v, t, lo, B, m, e1, e2, e3, ⟨_, e5⟩, e4⟩ := HNO.out.2 k hlt
        obtain ⟨hsm, henc, hsd⟩ := reads_small (H20.out.2 _ (List.getElem_mem hlt)) e2
        obtain ⟨k', l', s', a', n', cap', hnd, hrep, _⟩ := rn_nd hsm.pure e4
        obtain ⟨m, rfl⟩ : ∃ m', m = m' + 1 := by
          cases m with
          | zero => exact e4.elim
          | succ m => exact ⟨m, rfl⟩
        obtain ⟨b, off, rfl, hb, hcell⟩ := HRD.out k (by rw [HVS.out]; exact hlt)
        have hvk : vs[k]'(by rw [HVS.out]; exact hlt) = v := by rw [List.getElem?_eq_getElem (by rw [HVS.out]; exact hlt)] at e1; exact Option.some.inj e1
        rw [hvk] at hcell
        have f0 := (HH.out.1.cell (p := ⟨b, off + k, none⟩) hb).trans hcell
        have i1 : (0 : Int) ≤ (k : Int) := by omega
        have i2 : (k : Int) < (p.length : Int) := by omega
        have HSUM := hid (commonSum_any k' a' n' cap' l' s' m t wr hsm (rep_wider (Nat.le_trans e3 HH.out.1.size) _ _ _ (rep_frame (HH.out.1.mono e3) _ _ _ hrep)))
        have HTK : Hid (Tr.addAll S (bl (p.take (k + 1))) = Tr.add (Tr.addAll S (bl (p.take k))) p[k].data.toList) := by
          rw [Hid, List.take_succ_eq_append_getElem hlt, bl_append]
          exact Tr.addAll_snoc _ _ _
        obtain ⟨E, hE⟩ : ∃ E : ByteArray, E = ⟨(Tr.sum (Itm.enc t)).toArray⟩ := ⟨_, rfl⟩
        have hEd : E.data.toList = Tr.sum p[k].data.toList := by rw [hE, henc]
        have hEs : E.size ≤ 1000 := by rw [← ba_len, hEd, Tr.sum_len]; decide
        have HE := hid hE
        have HED := hid hEd
        have HADD := hid (fun (T : List (List UInt8)) (G : List UInt8 → Option Value) (h : NodesAt own w1.heap.size w1 T G) (hg : G (Tr.sum p[k].data.toList) = none) => nodesAt_add (v := v) h hg e2 (by rw [ba_len]; exact H20.out.2 _ (List.getElem_mem hlt)) e3 (fun q hq => .inl (Nat.lt_of_lt_of_le (HN.out q hq) e5)) e4)
        have HOLD := hid (fun (T : List (List UInt8)) (G : List UInt8 → Option Value) (u : Value) (h : NodesAt own w1.heap.size w1 T G) (hg : G (Tr.sum p[k].data.toList) = some u) => nodesAt_old h hg)
        have HND := hid hnd
        obtain ⟨T, A, rfl, _, _, _, hm⟩ := nd_call hnd
        have hTn : (Tr.addAll S (bl (p.take k))).length ≤ 2000 := by
          have h1 := Tr.addAll_len (bl (p.take k)) S
          have h2 : (bl (p.take k)).length ≤ 20 := by rw [bl_len, List.length_take]; have := H20.out.1; omega
          omega
        obtain ⟨hbl, G, hmap, hnodes⟩ := HH.out
        have HMAP := hid hmap
        have HNODES := hid hnodes
        have HBL := hid hbl
        clear hE hEd e1 e2 e3 e4 e5 hsm hsd hrep hnd hvk hcell henc hmap hnodes hbl HH
        go_wp2_with fail
        refine HSUM.out.mono ?_
        rintro e w3 ⟨rfl, b3⟩
        rw [← HE.out]
        have HB3 : Hid (Below w1.heap.size w1 w3) := HBL.out.trans (b3.mono HBL.out.size)
        have HM3 := hid (mapAt_frame HMAP.out (b3.block _ (mapAt_lt HMAP.out)))
        have hlk := look_node HM3.out E hEs
        rw [HED.out] at hlk
        clear b3
        cases hg : G (Tr.sum p[k].data.toList) with
        | some u =>
          obtain ⟨q1, q2⟩ := HOLD.out _ _ _ HNODES.out hg
          have HQ := hid q1
          rw [hg] at hlk
          clear q1
          rcases q2 with rfl | ⟨Tu, xu, rfl⟩
          all_goals
            simp only [Option.getD_some, Option.isSome_some] at hlk
            go_wp2_with fail
            refine ⟨⟨k + 1, by go_num, by omega, ?_⟩, by simp [intOf]; omega⟩
            refine ⟨HB3.out, G, ?_, ?_⟩
            · rw [HTK.out, HQ.out]; exact HM3.out
            · rw [HTK.out, HQ.out]; exact HNODES.out
        | none =>
          obtain ⟨q1, q2⟩ := HADD.out _ _ HNODES.out hg
          have HQ1 := hid q1
          have HQ2 := hid q2
          rw [hg] at hlk
          simp only [Option.getD_none, Option.isSome_none] at hlk
          obtain ⟨w4, hup, hm4, ht4⟩ := mapAt_store HM3.out storeKeyed Tryz.underlying146 Tryz.underlying9 (by unfold maxLen; omega) E (by unfold maxLen; omega) (.iface T (.agg A))
          rw [HED.out, hg] at hm4
          have HM4 := hid hm4
          have HB4 : Hid (Below w1.heap.size w1 w4) := HB3.out.trans ⟨ht4.grown.os, ht4.grown.tape, ht4.grown.output, ht4.grown.size, fun i hi => ht4.grown.block i (Nat.lt_of_lt_of_le hi HB3.out.size) (fun e => by cases e; omega)⟩
          clear q1 q2 hm4 ht4
          go_wp2_with fail
          refine ⟨⟨k + 1, by go_num, by omega, ?_⟩, by simp [intOf]; omega⟩
          refine ⟨HB4.out, fun x => if x = Tr.sum p[k].data.toList then some (.iface T (.agg A)) else G x, ?_, ?_⟩
          · rw [HTK.out, HQ2.out, List.length_append]
            exact HM4.out
          · rw [HTK.out]; exact HQ1.out
      · obtain rfl : k = p.length := by omega
        have i2 : ¬ (p.length : Int) < (p.length : Int) := by omega
        obtain ⟨F', hst⟩ := addAt_end HBN.out HH.out
        have hl := fun ty => mapAt_len hst.1 Tryz.underlying146 ty
        have HST := hid hst
        have HBW := hid HH.out.1
        have hkr : wr.heap[k2]? = some (.cells #[.map (some k3)] 148 (0, 0)) := (HBW.out.block _ (Array.getElem?_eq_some_iff.1 HK.out).1).trans HK.out
        have z0 := cell_of_row _ _ 0 _ _ _ hkr
        have z1 := frozen_of_row _ _ 0 _ _ hkr
        have HKR := hid hkr
        have HOF : Hid (offerTo S root.data.toList key.data.toList (bl p) = if 200 < (Tr.addAll S (bl p)).length then (9, S) else (0, Tr.addAll S (bl p))) := by
          rw [Hid]; unfold offerTo; rw [if_neg (by rw [HV0.out]; simp)]
        have HBWW : Hid (Below w.heap.size w wr) := HB1.out.trans (HBW.out.mono HB1.out.size)
        have HW1 := hid HB1.out.size
        clear hst hkr HH hlt
        generalize hT : Tr.addAll S (bl p) = T' at *
        by_cases h200 : 200 < T'.length
        · have j1 : (200 : Int) < (T'.length : Int) := by omega
          rw [if_pos h200] at HOF
          clear h200
          go_wp2_with fail
          go_ret
          unfold AddOk
          rw [HOF.out]
          exact ⟨k3, F, rfl, HKR.out, storeAt_later H3.out HBWW.out, Turns.of_below HBWW.out⟩
        · have j1 : ¬ (200 : Int) < (T'.length : Int) := by omega
          rw [if_neg h200] at HOF
          clear h200
          go_wp2_with fail
          go_ret
          unfold AddOk
          rw [HOF.out]
          refine ⟨w1.heap.size, F', rfl, heap_setCell_same _ _ _ _ _ _ HKR.out, storeAt_turns HST.out (by simp [World.setCell]) (fun q hq ho => Below.heap_setCell _ _ _ _ (fun e => ho (by rw [e]; exact HK2.out))), ?_⟩
          have ht : Turns (fun q => q = k2) wr (wr.setCell ⟨k2, 0, none⟩ (.map (some w1.heap.size))) := ⟨rfl, rfl, rfl, by simp [World.setCell], fun q hq ho => Below.heap_setCell _ _ _ _ ho⟩
          exact (Turns.of_below HBWW.out).trans ht
  · have hN' : ¬ (N : Int) = 0 := by omega
    obtain rfl := h0 hN
    have HB1 := hid b1
    have HOF : Hid (offerTo S root.data.toList key.data.toList (bl p) = (N, S)) := by
      rw [Hid]; unfold offerTo; rw [hv]; exact if_pos hN
    clear h0 h1 hv b1 hN
    go_wp2_with fail
    go_ret
    unfold AddOk
    rw [HOF.out]
    exact ⟨k3, F, rfl, (HB1.out.block _ (Array.getElem?_eq_some_iff.1 H2.out).1).trans H2.out, storeAt_later H3.out HB1.out, Turns.of_below HB1.out⟩
end Go.Proofs.YtbmohenjphmlgaaGreat
