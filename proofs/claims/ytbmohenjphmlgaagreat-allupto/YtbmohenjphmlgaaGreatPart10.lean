/- Part 10 of a proof: what the last text needs. -/
import Derived.Test.YtbmohenjphmlgaaGreatPart9
import Derived.Test.YtbmohenjphmlgaaGreatPart7
/- The walk of read (of the program): the sound node whose bytes a text is. -/
namespace Go.Proofs.YtbmohenjphmlgaaGreat
open Go.RowKit
set_option maxRecDepth 100000

theorem dec_reads {l : List UInt8} (hl : l.length ≤ 1000) : Tr.reads l = match Itm.dec l with | .error _ => none | .ok t => if Tr.sound t then some t else none := by
  unfold Tr.reads Tr.whole Itm.dec
  rw [if_neg (by omega)]
  cases hp : Itm.parse l.length l with
  | none => rfl
  | some x =>
    obtain ⟨t, rest⟩ := x
    cases rest with
    | nil =>
      simp only [List.isEmpty_nil, if_true]
      by_cases h8 : 8 < Itm.deep t
      · rw [if_pos h8]
        show (if Tr.sound t = true then some t else none) = none
        rw [if_neg]
        intro hs
        have := Tr.sound_deep hs
        omega
      · rw [if_neg h8]
    | cons c r => rfl

theorem dec_small {l : List UInt8} {t : Itm} (h : Itm.dec l = .ok t) : Small t := by
  unfold Itm.dec at h
  split at h
  · cases h
  · rename_i hl
    split at h
    · cases h
    · rename_i u rest hp
      split at h
      · rename_i hr
        split at h
        · cases h
        · rename_i h8
          cases h
          obtain ⟨h1, h2⟩ := Itm.parse_sound _ _ _ _ hp
          rw [List.isEmpty_iff.1 hr, List.append_nil] at h1
          exact ⟨h2, by omega, by rw [← h1]; omega⟩
      · cases h

theorem dec_err {l : List UInt8} {n : Nat} (h : Itm.dec l = .error n) : n = 1 ∨ n = 2 := by
  unfold Itm.dec at h
  split at h
  · cases h; exact .inr rfl
  · split at h
    · cases h; exact .inl rfl
    · split at h
      · split at h
        · cases h; exact .inr rfl
        · cases h
      · cases h; exact .inl rfl

set_option maxHeartbeats 1600000 in
theorem read_any (s : ByteArray) (w : World) (hs : s.size ≤ 1000) : Calls Tryz.prog 138 #[.string s] w fun e w' => ∃ v, e = .returned (.tuple #[v, .bool (Tr.reads s.data.toList).isSome]) ∧ IsNode v ∧ (∀ t, Tr.reads s.data.toList = some t → ∃ B m, B ≤ w'.heap.size ∧ RN w.heap.size B w' m v t) ∧ Below w.heap.size w w' := by
  have hdr := dec_reads (l := s.data.toList) (by rw [ba_len]; exact hs)
  have HD := hid (fun w => itemsDecode_any s w)
  cases hd : Itm.dec s.data.toList with
  | error n =>
    rw [hd] at hdr
    have HN : Hid (Tr.reads s.data.toList = none) := hdr
    have hn := dec_err hd
    have hn0 : ¬ (n : Int) = 0 := by omega
    have HDE := hid hd
    clear hdr hd hs hn
    go_enter Tryz.func138, Tryz.ntmps138
    go_wp2_with fail
    refine (HD.out _).mono ?_
    rintro e w1 ⟨h1, _, b1⟩
    obtain rfl := h1 n HDE.out
    have HB1 : Hid (Below w.heap.size w w1) := b1
    clear b1 h1
    go_wp2_with fail
    exact bodyPost_ret (v := .tuple #[.nilIface, .bool false]) (by simp [results, Tryz.results138, go_sem]) rfl ⟨_, by rw [HN.out]; rfl, .inl rfl, (fun t h => by rw [HN.out] at h; cases h), HB1.out.alloc HB1.out.size _⟩
  | ok t =>
    rw [hd] at hdr
    have HN : Hid (Tr.reads s.data.toList = if Tr.sound t then some t else none) := hdr
    have HDE := hid hd
    have HSM := hid (dec_small hd)
    clear hdr hd hs
    go_enter Tryz.func138, Tryz.ntmps138
    go_wp2_with fail
    refine (HD.out _).mono ?_
    rintro e w1 ⟨_, h1, b1⟩
    obtain ⟨v, rfl, ow⟩ := h1 t HDE.out
    have HRP := hid (repW_of_own _ _ _ _ _ (Nat.le_refl _) (Nat.le_refl _) ow)
    obtain ⟨a1, c1, rfl⟩ := ow_shape ow
    have HB1 : Hid (Below w.heap.size w w1) := b1
    have HM := hid (fun w' (b : Below w1.heap.size w1 w') => readOk_all s.size w.heap.size w1.heap.size w' _ _ _ _ _ t b.size HSM.out (repW_frame b _ _ _ HRP.out))
    clear b1 h1 ow
    go_wp2_with fail
    have HB2 : Hid (Below w1.heap.size w1 (w1.alloc (.cells #[.bool t.list, .string ⟨t.bytes.toArray⟩, .slice a1 t.items.length c1] 119))) := (Below.refl _ _).alloc (Nat.le_refl _) _
    refine (HM.out _ HB2.out).mono ?_
    rintro e w3 ⟨v3, rfl, n3, r3, b3⟩
    have HN3 := hid n3
    have HR3 := hid r3
    have HB3 : Hid (Below w.heap.size w w3) := (HB1.out.trans (HB2.out.mono HB1.out.size)).trans (b3.mono (Nat.le_trans HB1.out.size HB2.out.size))
    have HBS : Hid (w1.heap.size ≤ w3.heap.size) := Nat.le_trans HB2.out.size b3.size
    clear n3 r3 b3
    obtain ⟨sd, hsd⟩ : ∃ b, b = Tr.sound t := ⟨_, rfl⟩
    have HSD := hid hsd
    rw [← hsd]
    clear hsd
    go_wp2_with fail
    refine bodyPost_ret (v := .tuple #[v3, .bool sd]) (by simp [results, Tryz.results138, go_sem]) rfl ⟨_, ?_, HN3.out, ?_, HB3.out⟩
    · rw [HN.out, HSD.out]
      cases Tr.sound t <;> rfl
    · intro t' ht
      rw [HN.out] at ht
      split at ht
      · rename_i h
        cases ht
        exact ⟨_, _, HBS.out, HR3.out h⟩
      · cases ht
end Go.Proofs.YtbmohenjphmlgaaGreat

/- The walk of readAll (of the program): the nodes of a proof. -/
namespace Go.Proofs.YtbmohenjphmlgaaGreat
open Go.RowKit
set_option maxRecDepth 100000

/-- What readAll tells. -/
def RAll (p : List ByteArray) (w : World) (e : Ending) (w' : World) : Prop := ∃ r ok, e = .returned (.tuple #[r, .bool ok]) ∧ Below w.heap.size w w' ∧ (ok = false → r = .slice none 0 0 ∧ ∃ s ∈ p, Tr.reads s.data.toList = none) ∧
      (ok = true → ∃ vs, NOwn w' w.heap.size r vs ∧ NodesOf w.heap.size r.ownBlock w'.heap.size w' vs p)

set_option maxHeartbeats 3200000 in
theorem readAll_any (a : Option Addr) (cap : Nat) (p : List ByteArray) (w : World) (hr : SRd w.heap.size w a p) (hl : p.length ≤ 1000) (hs : ∀ s ∈ p, s.size ≤ 1000) :
    Calls Tryz.prog 124 #[.slice a p.length cap] w (RAll p w) := by
  have HR := hid hr
  have HS := hid hs
  clear hr hs
  go_enter Tryz.func124, Tryz.ntmps124
  go_wp2_with fail
  go_loopw [4, 11] (fun v i wr => ∃ (k : Nat) (vs : List Value), i = .int .i64 k ∧ k ≤ p.length ∧ vs.length = k ∧ Hid (NOwn wr w.heap.size v vs ∧ NodesOf w.heap.size v.ownBlock wr.heap.size wr vs (p.take k) ∧ Below w.heap.size w wr)) (fun _ i _ => p.length - (intOf i).toNat)
  case atStart => exact ⟨0, [], rfl, Nat.zero_le _, rfl, nown_nil _ _, nodes_nil _ _ _ _, Below.refl _ _⟩
  case round =>
    obtain ⟨k, vs, rfl, hk, hvs, HH⟩ := hrel
    have HVL := hid hvs
    clear hvs
    obtain ⟨av, cv, hv, _⟩ := nown_shape HH.out.1
    subst hv
    by_cases hlt : k < p.length
    · obtain ⟨b, off, rfl, hb, e0⟩ := HR.out k hlt
      have f0 := (HH.out.2.2.cell (p := ⟨b, off + k, none⟩) hb).trans e0
      have i1 : (0 : Int) ≤ (k : Int) := by omega
      have i2 : (k : Int) < (p.length : Int) := by omega
      have hbw : b < wr.heap.size := Nat.lt_of_lt_of_le hb HH.out.2.2.size
      have HTK : Hid (p.take (k + 1) = p.take k ++ [p[k]]) := List.take_succ_eq_append_getElem hlt
      have HRE := hid (read_any p[k] wr (HS.out _ (List.getElem_mem hlt)))
      have HMM : Hid (p[k] ∈ p) := List.getElem_mem hlt
      generalize p[k] = s at *
      clear e0
      go_wp2_with fail
      refine HRE.out.mono ?_
      rintro e w1 ⟨v1, rfl, n1, r1, b1⟩
      have HN1 := hid n1
      have HR1 := hid r1
      have HB1 := hid b1
      clear n1 r1 b1
      cases hrs : Tr.reads s.data.toList with
      | none =>
        have HRS := hid hrs
        clear hrs
        go_wp2_with fail
        exact bodyPost_ret (v := .tuple #[.slice none 0 0, .bool false]) (by simp [results, Tryz.results124, go_sem]) rfl ⟨_, _, rfl, HH.out.2.2.trans (HB1.out.mono HH.out.2.2.size), fun _ => ⟨rfl, s, HMM.out, HRS.out⟩, fun h => by cases h⟩
      | some t =>
        have HRS := hid hrs
        have HO1 := hid (nown_later HH.out.1 HB1.out)
        have HB2 : Hid (Below w.heap.size w w1) := HH.out.2.2.trans (HB1.out.mono HH.out.2.2.size)
        have HLE : Hid (vs.length ≤ 1000000) := by rw [Hid, HVL.out]; omega
        clear hrs
        have hn1 := HN1.out
        rcases hn1 with rfl | ⟨T, y, rfl⟩
        all_goals
          go_wp2_with (at_builtin; go_loud (refine wpList_push_node rfl (.tmp 22) (.tmp 24) rfl _ HN1.out w1.heap.size rfl rfl rfl HO1.out (Below.refl _ _) HB2.out (Nat.le_refl _) HLE.out ?_); intro v' w' ho' hb' hk' hn' hz'; have HO' := hid ho'; have HB' := hid hb'; have HK' := hid (And.intro hk' hn'); have HZ' := hid hz'; clear ho' hb' hk' hn' hz')
          refine ⟨⟨k + 1, vs ++ [_], by go_num, by omega, by rw [List.length_append, HVL.out]; rfl, HO'.out, ?_, HB'.out⟩, by simp [intOf]; omega⟩
          obtain ⟨B, m, hB, hrn⟩ := HR1.out t HRS.out
          rw [HTK.out]
          have hC : Below wr.heap.size wr w1 := HB1.out
          refine nodes_turn (nodes_snoc (nodes_wider (nodes_later HH.out.2.1 hC) hC.size) HH.out.2.2.size HRS.out hB (fun b hb => .inl (nown_lt HH.out.1 b hb).2) hrn) HZ'.out HK'.out.2 HK'.out.1
    · obtain rfl : k = p.length := by omega
      have HO := hid HH.out.1
      have HNN := hid HH.out.2.1
      have HB := hid HH.out.2.2
      rw [List.take_length] at HNN
      clear HH hlt
      have i2 : ¬ (p.length : Int) < (p.length : Int) := by omega
      go_wp2_with fail
      exact bodyPost_ret (v := .tuple #[.slice av vs.length cv, .bool true]) (by simp [results, Tryz.results124, go_sem]) rfl ⟨_, _, rfl, HB.out, (fun h => by cases h), fun _ => ⟨vs, HO.out, HNN.out⟩⟩
end Go.Proofs.YtbmohenjphmlgaaGreat

/- The walk of the finder in check (of the program): it takes the next node of the proof. -/
namespace Go.Proofs.YtbmohenjphmlgaaGreat
open Go.RowKit
set_option maxRecDepth 100000

/-- What is left of a proof of n elements behind its first j: the variable at block c. -/
def LeftAt (w : World) (c : Nat) (a : Option Addr) (n j : Nat) : Prop :=
  ∃ a' cap', w.heap[c]? = some (.cells #[.slice a' (n - j) cap'] 155 (0, 0)) ∧ n - j ≤ cap' ∧ (∀ b off, a = some ⟨b, off, none⟩ → j < n → a' = some ⟨b, off + j, none⟩)

/-- The rest of a row of nodes, cut off by its start: for a walk. -/
theorem wpList_node_from {ops : Array Oper} {rest : List Oper} {o : Oper} {act : Act} {Q : Exit → Act → World → Prop} {w : World} (hgd : o.guard = none) (s x : Operand)
    (hop : o.op = .slice 155 s (some x) none none) (a : Option Addr) (len cap : Nat) (hs : act.eval s = .slice a len cap) (hx : act.eval x = .int .i64 1) (hn : 1 ≤ len)
    (h : ∀ a', a' = (if cap = 1 then a else a.map (·.add 1)) → wpList Tryz.prog ops Q rest (act.put o.dst (.slice a' (len - 1) (cap - 1))) w) :
    wpList Tryz.prog ops Q (o :: rest) act w := by
  refine wpList_plain hgd fun K hK => ?_
  have hu := Tryz.underlying155
  have hz := Tryz.sizeOf86
  have i1 : (1 : Int) ≤ (len : Int) := by omega
  have hr : Sem.run Tryz.prog (Instr.sliceAt 155 (.slice a len cap) (some (.int .i64 1)) none none) w = .ok (.slice (if cap = 1 then a else a.map (·.add 1)) (len - 1) (cap - 1)) w := by
    go_simp
  unfold Oper.wp execOp
  simp only [hop, Sem.run_bind, Sem.run_pure, Result.andThen_ok, Option.map_some, Option.map_none, hs, hx, hr]
  exact hK _ _ (h _ rfl)

theorem reads_small {s : ByteArray} {t : Itm} (hs : s.size ≤ 1000) (h : Tr.reads s.data.toList = some t) : Small t ∧ s.data.toList = Itm.enc t ∧ Tr.sound t = true := by
  obtain ⟨h1, h2⟩ := Tr.reads_some h
  obtain ⟨h3, h4⟩ := Tr.whole_enc_eq h1
  exact ⟨⟨h4, Tr.sound_deep h2, by rw [← h3, ba_len]; exact hs⟩, h3, h2⟩

theorem left_later {w w' : World} {c : Nat} {a : Option Addr} {n j : Nat} (h : LeftAt w c a n j) (hc : c < w.heap.size) (hb : Below w.heap.size w w') : LeftAt w' c a n j := by
  obtain ⟨a', cap', h1, h2⟩ := h
  exact ⟨a', cap', (hb.block c hc).trans h1, h2⟩

theorem left_lt {w : World} {c : Nat} {a : Option Addr} {n j : Nat} (h : LeftAt w c a n j) : c < w.heap.size := by
  obtain ⟨a', cap', h1, h2⟩ := h
  exact (Array.getElem?_eq_some_iff.1 h1).1

theorem bytes_neq {a b : ByteArray} (h : a ≠ b) : (a.toList == b.toList) = false := by
  rw [beq_eq_false_iff_ne]
  intro e
  apply h
  rw [ByteArray.toList_eq, ByteArray.toList_eq] at e
  cases a; cases b
  simp only [Array.toList_inj] at e
  rw [e]

/-- One element less is left. -/
theorem left_next {w1 : World} {c b off o j n k cap' : Nat} {a a2 : Option Addr} (hc : w1.heap[c]? = some (.cells #[.slice (some ⟨b, o, none⟩) (k + 1) cap'] 155 (0, 0))) (hk : n - j = k + 1) (hcap : k + 1 ≤ cap') (ha : a = some ⟨b, off, none⟩) (ho : o = off + j) (h2 : a2 = (if cap' = 1 then some ⟨b, o, none⟩ else (some (⟨b, o, none⟩ : Addr)).map (·.add 1))) : LeftAt (w1.setCell ⟨c, 0, none⟩ (.slice a2 k (cap' - 1))) c a n (j + 1) := by
  refine ⟨a2, cap' - 1, ?_, by omega, fun b' off' ha' hj => ?_⟩
  · rw [show n - (j + 1) = k by omega]
    exact heap_setCell_same _ _ _ _ _ _ hc
  · rw [ha] at ha'
    cases ha'
    rw [if_neg (by omega)] at h2
    rw [h2, ho]
    show some ((⟨b, off + j, none⟩ : Addr).add 1) = _
    congr 1

/-- What the finder reads. -/
def CkS (c u b o k cap : Nat) (s : ByteArray) (n v : Value) (w : World) : Prop := w.heap[c]? = some (.cells #[.slice (some ⟨b, o, none⟩) (k + 1) cap] 155 (0, 0)) ∧ w.heap[u]? = some (.cells #[.string s, n] 139 (0, 0)) ∧ w.cell? ⟨b, o, none⟩ = some v

theorem ckS_later {c u b o k cap : Nat} {s : ByteArray} {n v : Value} {w w' : World} (h : CkS c u b o k cap s n v w) (hb : Below w.heap.size w w') : CkS c u b o k cap s n v w' :=
  ⟨kept_block hb h.1, kept_block hb h.2.1, (hb.cell (p := ⟨b, o, none⟩) (World.block_lt_of_cell? w _ h.2.2)).trans h.2.2⟩

section
variable {W : World} {a : Option Addr} {vs : List Value} {p : List ByteArray} {L : Nat} {g : Option Nat} (hrd : NRd W.heap.size W a vs) (hno : NodesOf L g W.heap.size W vs p) (hsz : ∀ s ∈ p, s.size ≤ 1000)
include hrd hno hsz

set_option maxHeartbeats 3200000 in
theorem check1_any (s : ByteArray) (n : Value) (hn : IsNode n) (w : World) (hB : Below W.heap.size W w) (j : Nat) (hj : j ≤ p.length) (hl : LeftAt w W.heap.size a p.length j) :
    Calls Tryz.prog 125 #[.agg #[.string s, n], .pointer (some ⟨W.heap.size, 0, none⟩)] w fun e w' => ∃ v ok, e = .returned (.tuple #[v, .bool ok]) ∧ Below W.heap.size W w' ∧
      (ok = true → ∃ h : j < p.length, vs[j]? = some v ∧ Tr.sum p[j].data.toList = s.data.toList ∧ LeftAt w' W.heap.size a p.length (j + 1)) ∧
      (ok = false → LeftAt w' W.heap.size a p.length j ∧ (j = p.length ∨ ∃ h : j < p.length, Tr.sum p[j].data.toList ≠ s.data.toList)) := by
  have HL := hid hl
  have HB := hid hB
  obtain ⟨a', cap', hc, hcap, ha'⟩ := hl
  obtain ⟨c, hcW⟩ : ∃ c, c = W.heap.size := ⟨_, rfl⟩
  rw [← hcW] at hc HL HB ⊢
  have HCW := hid hcW
  clear hcW
  have hlt : c < w.heap.size := (Array.getElem?_eq_some_iff.1 hc).1
  have hne : ¬ c = w.heap.size := by omega
  by_cases hjn : j = p.length
  · have hk0 : p.length - j = 0 := by omega
    rw [hk0] at hc
    have z0 := (cell_of_row _ _ 0 _ _ _ hc).trans rfl
    have HJN := hid hjn
    clear hc hcap ha' hjn hrd hno hsz hB hj hk0
    rcases hn with rfl | ⟨T, y, rfl⟩
    all_goals
      go_enter Tryz.func125, Tryz.ntmps125
      go_wp2_with fail
      go_quiet (fail)
      go_wp2_with fail
      have hbn := fun (O : Obj) => below_drewN ((Below.refl w.heap.size w).alloc (Nat.le_refl _) O) nq
      exact bodyPost_ret (v := .tuple #[.nilIface, .bool false]) (by simp [results, Tryz.results125, go_sem]) rfl ⟨_, _, rfl, HB.out.trans ((hbn _).mono (Nat.le_of_lt hlt)), (fun h => by cases h), fun _ => ⟨left_later HL.out hlt (hbn _), .inl HJN.out⟩⟩
  · have hjl : j < p.length := by omega
    obtain ⟨v, t, lo, B, m, e1, e2, e3, _, e4⟩ := hno.2 j hjl
    obtain ⟨hsm, henc, hsd⟩ := reads_small (hsz _ (List.getElem_mem hjl)) e2
    obtain ⟨k', l', s', a1, n1, cap1, hnd, hrep, _⟩ := rn_nd hsm.pure e4
    obtain ⟨m, rfl⟩ : ∃ m', m = m' + 1 := by
      cases m with
      | zero => exact e4.elim
      | succ m => exact ⟨m, rfl⟩
    have hvl : j < vs.length := by rw [hno.1]; exact hjl
    obtain ⟨b, off, hab, hb, hcell⟩ := hrd j hvl
    have hvj : vs[j] = v := by rw [List.getElem?_eq_getElem hvl] at e1; exact Option.some.inj e1
    have haj := ha' b off hab hjl
    rw [hvj] at hcell
    have hcw := (hB.cell (p := ⟨b, off + j, none⟩) hb).trans hcell
    have HSUM := hid (fun w' (bb : Below w.heap.size w w') => commonSum_any k' a1 n1 cap1 l' s' m t w' hsm (rep_wider (Nat.le_trans (Nat.le_trans e3 hB.size) bb.size) _ _ _ (rep_frame ((hB.trans (bb.mono hB.size)).mono e3) _ _ _ hrep)))
    obtain ⟨E, hE⟩ : ∃ E : ByteArray, E = ⟨(Tr.sum (Itm.enc t)).toArray⟩ := ⟨_, rfl⟩
    have HE := hid hE
    have hEd : E.data.toList = Tr.sum p[j].data.toList := by rw [hE, henc]
    obtain ⟨T, A, rfl, _, _, _, hm⟩ := nd_call hnd
    obtain ⟨k, hk⟩ : ∃ k, p.length - j = k + 1 := ⟨p.length - j - 1, by omega⟩
    have HK := hid hk
    have HV := hid e1
    have HAB := hid hab
    rw [hk] at hc hcap
    subst haj
    obtain ⟨o, ho⟩ : ∃ o, o = off + j := ⟨_, rfl⟩
    have HO := hid ho
    rw [← ho] at hc hcw
    have HJ := hid hj
    have hk0 : ¬ (k : Int) + 1 = 0 := by omega
    have hkk : (0 : Int) < (k : Int) + 1 := by omega
    clear hE e1 e2 e3 e4 hsm hsd hrep hnd hvj hcell hvl hno hsz hrd hB hj hab ha' ho hjn hk
    obtain ⟨nn, hnn⟩ : ∃ nn, nn = n := ⟨_, rfl⟩
    rw [← hnn] at hn ⊢
    clear hnn
    by_cases heq : E = s
    · have he : (E.toList == s.toList) = true := by rw [heq]; exact beq_self_eq_true _
      have HSQ : Hid (Tr.sum p[j].data.toList = s.data.toList) := by rw [Hid, ← hEd, heq]
      clear hEd henc heq
      rcases hn with rfl | ⟨Tn, yn, rfl⟩
      · go_enter Tryz.func125, Tryz.ntmps125
        go_wp2_with fail
        have HWB : Hid (Below w.heap.size w (w.alloc (.cells #[.string s, .nilIface] 139)).drew) := ((Below.refl _ _).alloc (Nat.le_refl _) _).drew
        have hS : CkS c w.heap.size b o k cap' s .nilIface (.iface T (.agg A)) (w.alloc (.cells #[.string s, .nilIface] 139)).drew := ⟨(HWB.out.block _ hlt).trans hc, heap_alloc_new w _, (HWB.out.cell (p := ⟨b, o, none⟩) (World.block_lt_of_cell? w _ hcw)).trans hcw⟩
        refine wp_region_held_drew (S := CkS c w.heap.size b o k cap' s .nilIface (.iface T (.agg A))) (by kernel_rfl) hS (fun _ => ?_)
        refine wpAnyH_take (i := 0) (v := .slice (some ⟨b, o, none⟩) (k + 1) cap') rfl (by kernel_rfl) (by kernel_rfl) (by kernel_rfl) (fun _ _ _ h => h) (Or.inl ⟨by kernel_rfl, ?_⟩) hS ?_
        · (intro w' hSw; have z0 := (cell_of_row w' _ 0 _ _ _ hSw.1).trans rfl; go_simp)
        try simp only [Act.put]
        refine wpAnyH_take (i := 1) (v := .int .i64 ((k + 1 : Nat) : Int)) rfl (by kernel_rfl) (by kernel_rfl) (by kernel_rfl) (fun _ _ _ h => h) (Or.inl ⟨by kernel_rfl, ?_⟩) hS ?_
        · (intro w' hSw; go_simp)
        try simp only [Act.put]
        refine wpAnyH_take (i := 2) (v := .bool false) rfl (by kernel_rfl) (by kernel_rfl) (by kernel_rfl) (fun _ _ _ h => h) (Or.inl ⟨by kernel_rfl, ?_⟩) hS ?_
        · (intro w' hSw; go_simp)
        try simp only [Act.put]
        refine wpAnyH_take (i := 3) (v := .bool false) rfl (by kernel_rfl) (by kernel_rfl) (by kernel_rfl) (fun _ _ _ h => h) (Or.inl ⟨by kernel_rfl, ?_⟩) hS ?_
        · (intro w' hSw; go_simp)
        try simp only [Act.put]
        refine wpAnyH_take (i := 4) (v := .slice (some ⟨b, o, none⟩) (k + 1) cap') rfl (by kernel_rfl) (by kernel_rfl) (by kernel_rfl) (fun _ _ _ h => h) (Or.inl ⟨by kernel_rfl, ?_⟩) hS ?_
        · (intro w' hSw; have z0 := (cell_of_row w' _ 0 _ _ _ hSw.1).trans rfl; go_simp)
        try simp only [Act.put]
        refine wpAnyH_take (i := 5) (v := .pointer (some ⟨b, o, none⟩)) rfl (by kernel_rfl) (by kernel_rfl) (by kernel_rfl) (fun _ _ _ h => h) (Or.inl ⟨by kernel_rfl, ?_⟩) hS ?_
        · (intro w' hSw; go_simp)
        try simp only [Act.put]
        refine wpAnyH_take (i := 6) (v := .iface T (.agg A)) rfl (by kernel_rfl) (by kernel_rfl) (by kernel_rfl) (fun _ _ _ h => h) (Or.inl ⟨by kernel_rfl, ?_⟩) hS ?_
        · (intro w' hSw; have z0 := hSw.2.2; go_simp)
        try simp only [Act.put]
        refine wpAnyH_take (i := 8) (v := .pointer (some ⟨w.heap.size, 0, none⟩)) rfl (by kernel_rfl) (by kernel_rfl) (by kernel_rfl) (fun _ _ _ h => h) (Or.inl ⟨by kernel_rfl, ?_⟩) hS ?_
        · (intro w' hSw; go_simp)
        try simp only [Act.put]
        refine wpAnyH_take (i := 9) (v := .string s) rfl (by kernel_rfl) (by kernel_rfl) (by kernel_rfl) (fun _ _ _ h => h) (Or.inl ⟨by kernel_rfl, ?_⟩) hS ?_
        · (intro w' hSw; have z0 := (cell_of_row w' _ 0 _ _ _ hSw.2.1).trans rfl; go_simp)
        try simp only [Act.put]
        refine wpAnyH_ready (rs := [7]) (by kernel_rfl) (by simp) ?_
        refine AllReadyH.cons rfl (fun K hK => ?_) AllReadyH.nil
        go_simp
        refine (HSUM.out _ HWB.out).mono ?_
        rintro e w1 ⟨rfl, b1⟩
        rw [← HE.out]
        have hS1 := ckS_later hS b1
        have HB1 : Hid (Below w.heap.size w w1) := HWB.out.trans (b1.mono HWB.out.size)
        clear b1
        refine hK.out _ _ hS1 (fun _ => ?_)
        clear hK K
        try simp only [Act.put]
        refine wpAnyH_take (i := 10) (v := .bool false) rfl (by kernel_rfl) (by kernel_rfl) (by kernel_rfl) (fun _ _ _ h => h) (Or.inl ⟨by kernel_rfl, ?_⟩) hS1 ?_
        · (intro w' hSw; go_simp)
        try simp only [Act.put]
        refine wpAnyH_take (i := 11) (v := .bool false) rfl (by kernel_rfl) (by kernel_rfl) (by kernel_rfl) (fun _ _ _ h => h) (Or.inl ⟨by kernel_rfl, ?_⟩) hS1 ?_
        · (intro w' hSw; go_simp)
        try simp only [Act.put]
        refine wpAnyH_done (by kernel_rfl) ?_ _
        have z0 := (cell_of_row _ _ 0 _ _ _ hS1.1).trans rfl
        have z1 := hS1.2.2
        have hf0 := frozen_of_row _ _ 0 _ _ hS1.1
        have HC1 := hid hS1.1
        have hbw : b < w1.heap.size := World.block_lt_of_cell? w1 _ z1
        have hk1 : (0 : Int) < ((k + 1 : Nat) : Int) := by omega
        clear hS hS1 hc
        go_wp2_with (refine wpList_node_from rfl (.tmp 21) (.const (.int .i64 1)) rfl (some ⟨b, o, none⟩) (k + 1) cap' rfl rfl (by omega) ?_; intro a2 ha2; have HA2 := hid ha2; clear ha2)
        have HLN := left_next HC1.out HK.out hcap HAB.out HO.out HA2.out
        exact bodyPost_ret (v := .tuple #[.iface T (.agg A), .bool true]) (by simp [results, Tryz.results125, go_sem]) rfl ⟨_, _, rfl, (HB.out.trans (HB1.out.mono (Nat.le_of_lt hlt))).setCell (p := ⟨c, 0, none⟩) (Nat.le_refl _) _, fun _ => ⟨hjl, HV.out, HSQ.out, HLN⟩, (fun h => by cases h)⟩
      · go_enter Tryz.func125, Tryz.ntmps125
        go_wp2_with fail
        have HWB : Hid (Below w.heap.size w (w.alloc (.cells #[.string s, (.iface Tn yn)] 139)).drew) := ((Below.refl _ _).alloc (Nat.le_refl _) _).drew
        have hS : CkS c w.heap.size b o k cap' s (.iface Tn yn) (.iface T (.agg A)) (w.alloc (.cells #[.string s, (.iface Tn yn)] 139)).drew := ⟨(HWB.out.block _ hlt).trans hc, heap_alloc_new w _, (HWB.out.cell (p := ⟨b, o, none⟩) (World.block_lt_of_cell? w _ hcw)).trans hcw⟩
        refine wp_region_held_drew (S := CkS c w.heap.size b o k cap' s (.iface Tn yn) (.iface T (.agg A))) (by kernel_rfl) hS (fun _ => ?_)
        refine wpAnyH_take (i := 0) (v := .slice (some ⟨b, o, none⟩) (k + 1) cap') rfl (by kernel_rfl) (by kernel_rfl) (by kernel_rfl) (fun _ _ _ h => h) (Or.inl ⟨by kernel_rfl, ?_⟩) hS ?_
        · (intro w' hSw; have z0 := (cell_of_row w' _ 0 _ _ _ hSw.1).trans rfl; go_simp)
        try simp only [Act.put]
        refine wpAnyH_take (i := 1) (v := .int .i64 ((k + 1 : Nat) : Int)) rfl (by kernel_rfl) (by kernel_rfl) (by kernel_rfl) (fun _ _ _ h => h) (Or.inl ⟨by kernel_rfl, ?_⟩) hS ?_
        · (intro w' hSw; go_simp)
        try simp only [Act.put]
        refine wpAnyH_take (i := 2) (v := .bool false) rfl (by kernel_rfl) (by kernel_rfl) (by kernel_rfl) (fun _ _ _ h => h) (Or.inl ⟨by kernel_rfl, ?_⟩) hS ?_
        · (intro w' hSw; go_simp)
        try simp only [Act.put]
        refine wpAnyH_take (i := 3) (v := .bool false) rfl (by kernel_rfl) (by kernel_rfl) (by kernel_rfl) (fun _ _ _ h => h) (Or.inl ⟨by kernel_rfl, ?_⟩) hS ?_
        · (intro w' hSw; go_simp)
        try simp only [Act.put]
        refine wpAnyH_take (i := 4) (v := .slice (some ⟨b, o, none⟩) (k + 1) cap') rfl (by kernel_rfl) (by kernel_rfl) (by kernel_rfl) (fun _ _ _ h => h) (Or.inl ⟨by kernel_rfl, ?_⟩) hS ?_
        · (intro w' hSw; have z0 := (cell_of_row w' _ 0 _ _ _ hSw.1).trans rfl; go_simp)
        try simp only [Act.put]
        refine wpAnyH_take (i := 5) (v := .pointer (some ⟨b, o, none⟩)) rfl (by kernel_rfl) (by kernel_rfl) (by kernel_rfl) (fun _ _ _ h => h) (Or.inl ⟨by kernel_rfl, ?_⟩) hS ?_
        · (intro w' hSw; go_simp)
        try simp only [Act.put]
        refine wpAnyH_take (i := 6) (v := .iface T (.agg A)) rfl (by kernel_rfl) (by kernel_rfl) (by kernel_rfl) (fun _ _ _ h => h) (Or.inl ⟨by kernel_rfl, ?_⟩) hS ?_
        · (intro w' hSw; have z0 := hSw.2.2; go_simp)
        try simp only [Act.put]
        refine wpAnyH_take (i := 8) (v := .pointer (some ⟨w.heap.size, 0, none⟩)) rfl (by kernel_rfl) (by kernel_rfl) (by kernel_rfl) (fun _ _ _ h => h) (Or.inl ⟨by kernel_rfl, ?_⟩) hS ?_
        · (intro w' hSw; go_simp)
        try simp only [Act.put]
        refine wpAnyH_take (i := 9) (v := .string s) rfl (by kernel_rfl) (by kernel_rfl) (by kernel_rfl) (fun _ _ _ h => h) (Or.inl ⟨by kernel_rfl, ?_⟩) hS ?_
        · (intro w' hSw; have z0 := (cell_of_row w' _ 0 _ _ _ hSw.2.1).trans rfl; go_simp)
        try simp only [Act.put]
        refine wpAnyH_ready (rs := [7]) (by kernel_rfl) (by simp) ?_
        refine AllReadyH.cons rfl (fun K hK => ?_) AllReadyH.nil
        go_simp
        refine (HSUM.out _ HWB.out).mono ?_
        rintro e w1 ⟨rfl, b1⟩
        rw [← HE.out]
        have hS1 := ckS_later hS b1
        have HB1 : Hid (Below w.heap.size w w1) := HWB.out.trans (b1.mono HWB.out.size)
        clear b1
        refine hK.out _ _ hS1 (fun _ => ?_)
        clear hK K
        try simp only [Act.put]
        refine wpAnyH_take (i := 10) (v := .bool false) rfl (by kernel_rfl) (by kernel_rfl) (by kernel_rfl) (fun _ _ _ h => h) (Or.inl ⟨by kernel_rfl, ?_⟩) hS1 ?_
        · (intro w' hSw; go_simp)
        try simp only [Act.put]
        refine wpAnyH_take (i := 11) (v := .bool false) rfl (by kernel_rfl) (by kernel_rfl) (by kernel_rfl) (fun _ _ _ h => h) (Or.inl ⟨by kernel_rfl, ?_⟩) hS1 ?_
        · (intro w' hSw; go_simp)
        try simp only [Act.put]
        refine wpAnyH_done (by kernel_rfl) ?_ _
        have z0 := (cell_of_row _ _ 0 _ _ _ hS1.1).trans rfl
        have z1 := hS1.2.2
        have hf0 := frozen_of_row _ _ 0 _ _ hS1.1
        have HC1 := hid hS1.1
        have hbw : b < w1.heap.size := World.block_lt_of_cell? w1 _ z1
        have hk1 : (0 : Int) < ((k + 1 : Nat) : Int) := by omega
        clear hS hS1 hc
        go_wp2_with (refine wpList_node_from rfl (.tmp 21) (.const (.int .i64 1)) rfl (some ⟨b, o, none⟩) (k + 1) cap' rfl rfl (by omega) ?_; intro a2 ha2; have HA2 := hid ha2; clear ha2)
        have HLN := left_next HC1.out HK.out hcap HAB.out HO.out HA2.out
        exact bodyPost_ret (v := .tuple #[.iface T (.agg A), .bool true]) (by simp [results, Tryz.results125, go_sem]) rfl ⟨_, _, rfl, (HB.out.trans (HB1.out.mono (Nat.le_of_lt hlt))).setCell (p := ⟨c, 0, none⟩) (Nat.le_refl _) _, fun _ => ⟨hjl, HV.out, HSQ.out, HLN⟩, (fun h => by cases h)⟩
    · have he : (E.toList == s.toList) = false := bytes_neq heq
      have HNE : Hid (Tr.sum p[j].data.toList ≠ s.data.toList) := by
        rw [Hid, ← hEd]
        intro e
        exact heq (by cases E; cases s; simp_all)
      clear hEd henc heq
      rcases hn with rfl | ⟨Tn, yn, rfl⟩
      · go_enter Tryz.func125, Tryz.ntmps125
        go_wp2_with fail
        have HWB : Hid (Below w.heap.size w (w.alloc (.cells #[.string s, .nilIface] 139)).drew) := ((Below.refl _ _).alloc (Nat.le_refl _) _).drew
        have hS : CkS c w.heap.size b o k cap' s .nilIface (.iface T (.agg A)) (w.alloc (.cells #[.string s, .nilIface] 139)).drew := ⟨(HWB.out.block _ hlt).trans hc, heap_alloc_new w _, (HWB.out.cell (p := ⟨b, o, none⟩) (World.block_lt_of_cell? w _ hcw)).trans hcw⟩
        refine wp_region_held_drew (S := CkS c w.heap.size b o k cap' s .nilIface (.iface T (.agg A))) (by kernel_rfl) hS (fun _ => ?_)
        refine wpAnyH_take (i := 0) (v := .slice (some ⟨b, o, none⟩) (k + 1) cap') rfl (by kernel_rfl) (by kernel_rfl) (by kernel_rfl) (fun _ _ _ h => h) (Or.inl ⟨by kernel_rfl, ?_⟩) hS ?_
        · (intro w' hSw; have z0 := (cell_of_row w' _ 0 _ _ _ hSw.1).trans rfl; go_simp)
        try simp only [Act.put]
        refine wpAnyH_take (i := 1) (v := .int .i64 ((k + 1 : Nat) : Int)) rfl (by kernel_rfl) (by kernel_rfl) (by kernel_rfl) (fun _ _ _ h => h) (Or.inl ⟨by kernel_rfl, ?_⟩) hS ?_
        · (intro w' hSw; go_simp)
        try simp only [Act.put]
        refine wpAnyH_take (i := 2) (v := .bool false) rfl (by kernel_rfl) (by kernel_rfl) (by kernel_rfl) (fun _ _ _ h => h) (Or.inl ⟨by kernel_rfl, ?_⟩) hS ?_
        · (intro w' hSw; go_simp)
        try simp only [Act.put]
        refine wpAnyH_take (i := 3) (v := .bool false) rfl (by kernel_rfl) (by kernel_rfl) (by kernel_rfl) (fun _ _ _ h => h) (Or.inl ⟨by kernel_rfl, ?_⟩) hS ?_
        · (intro w' hSw; go_simp)
        try simp only [Act.put]
        refine wpAnyH_take (i := 4) (v := .slice (some ⟨b, o, none⟩) (k + 1) cap') rfl (by kernel_rfl) (by kernel_rfl) (by kernel_rfl) (fun _ _ _ h => h) (Or.inl ⟨by kernel_rfl, ?_⟩) hS ?_
        · (intro w' hSw; have z0 := (cell_of_row w' _ 0 _ _ _ hSw.1).trans rfl; go_simp)
        try simp only [Act.put]
        refine wpAnyH_take (i := 5) (v := .pointer (some ⟨b, o, none⟩)) rfl (by kernel_rfl) (by kernel_rfl) (by kernel_rfl) (fun _ _ _ h => h) (Or.inl ⟨by kernel_rfl, ?_⟩) hS ?_
        · (intro w' hSw; go_simp)
        try simp only [Act.put]
        refine wpAnyH_take (i := 6) (v := .iface T (.agg A)) rfl (by kernel_rfl) (by kernel_rfl) (by kernel_rfl) (fun _ _ _ h => h) (Or.inl ⟨by kernel_rfl, ?_⟩) hS ?_
        · (intro w' hSw; have z0 := hSw.2.2; go_simp)
        try simp only [Act.put]
        refine wpAnyH_take (i := 8) (v := .pointer (some ⟨w.heap.size, 0, none⟩)) rfl (by kernel_rfl) (by kernel_rfl) (by kernel_rfl) (fun _ _ _ h => h) (Or.inl ⟨by kernel_rfl, ?_⟩) hS ?_
        · (intro w' hSw; go_simp)
        try simp only [Act.put]
        refine wpAnyH_take (i := 9) (v := .string s) rfl (by kernel_rfl) (by kernel_rfl) (by kernel_rfl) (fun _ _ _ h => h) (Or.inl ⟨by kernel_rfl, ?_⟩) hS ?_
        · (intro w' hSw; have z0 := (cell_of_row w' _ 0 _ _ _ hSw.2.1).trans rfl; go_simp)
        try simp only [Act.put]
        refine wpAnyH_ready (rs := [7]) (by kernel_rfl) (by simp) ?_
        refine AllReadyH.cons rfl (fun K hK => ?_) AllReadyH.nil
        go_simp
        refine (HSUM.out _ HWB.out).mono ?_
        rintro e w1 ⟨rfl, b1⟩
        rw [← HE.out]
        have hS1 := ckS_later hS b1
        have HB1 : Hid (Below w.heap.size w w1) := HWB.out.trans (b1.mono HWB.out.size)
        clear b1
        refine hK.out _ _ hS1 (fun _ => ?_)
        clear hK K
        try simp only [Act.put]
        refine wpAnyH_take (i := 10) (v := .bool true) rfl (by kernel_rfl) (by kernel_rfl) (by kernel_rfl) (fun _ _ _ h => h) (Or.inl ⟨by kernel_rfl, ?_⟩) hS1 ?_
        · (intro w' hSw; go_simp)
        try simp only [Act.put]
        refine wpAnyH_take (i := 11) (v := .bool true) rfl (by kernel_rfl) (by kernel_rfl) (by kernel_rfl) (fun _ _ _ h => h) (Or.inl ⟨by kernel_rfl, ?_⟩) hS1 ?_
        · (intro w' hSw; go_simp)
        try simp only [Act.put]
        refine wpAnyH_done (by kernel_rfl) ?_ _
        clear hS hS1
        go_wp2_with fail
        exact bodyPost_ret (v := .tuple #[.nilIface, .bool false]) (by simp [results, Tryz.results125, go_sem]) rfl ⟨_, _, rfl, HB.out.trans (HB1.out.mono (Nat.le_of_lt hlt)), (fun h => by cases h), fun _ => ⟨left_later HL.out hlt HB1.out, .inr ⟨hjl, HNE.out⟩⟩⟩
      · go_enter Tryz.func125, Tryz.ntmps125
        go_wp2_with fail
        have HWB : Hid (Below w.heap.size w (w.alloc (.cells #[.string s, (.iface Tn yn)] 139)).drew) := ((Below.refl _ _).alloc (Nat.le_refl _) _).drew
        have hS : CkS c w.heap.size b o k cap' s (.iface Tn yn) (.iface T (.agg A)) (w.alloc (.cells #[.string s, (.iface Tn yn)] 139)).drew := ⟨(HWB.out.block _ hlt).trans hc, heap_alloc_new w _, (HWB.out.cell (p := ⟨b, o, none⟩) (World.block_lt_of_cell? w _ hcw)).trans hcw⟩
        refine wp_region_held_drew (S := CkS c w.heap.size b o k cap' s (.iface Tn yn) (.iface T (.agg A))) (by kernel_rfl) hS (fun _ => ?_)
        refine wpAnyH_take (i := 0) (v := .slice (some ⟨b, o, none⟩) (k + 1) cap') rfl (by kernel_rfl) (by kernel_rfl) (by kernel_rfl) (fun _ _ _ h => h) (Or.inl ⟨by kernel_rfl, ?_⟩) hS ?_
        · (intro w' hSw; have z0 := (cell_of_row w' _ 0 _ _ _ hSw.1).trans rfl; go_simp)
        try simp only [Act.put]
        refine wpAnyH_take (i := 1) (v := .int .i64 ((k + 1 : Nat) : Int)) rfl (by kernel_rfl) (by kernel_rfl) (by kernel_rfl) (fun _ _ _ h => h) (Or.inl ⟨by kernel_rfl, ?_⟩) hS ?_
        · (intro w' hSw; go_simp)
        try simp only [Act.put]
        refine wpAnyH_take (i := 2) (v := .bool false) rfl (by kernel_rfl) (by kernel_rfl) (by kernel_rfl) (fun _ _ _ h => h) (Or.inl ⟨by kernel_rfl, ?_⟩) hS ?_
        · (intro w' hSw; go_simp)
        try simp only [Act.put]
        refine wpAnyH_take (i := 3) (v := .bool false) rfl (by kernel_rfl) (by kernel_rfl) (by kernel_rfl) (fun _ _ _ h => h) (Or.inl ⟨by kernel_rfl, ?_⟩) hS ?_
        · (intro w' hSw; go_simp)
        try simp only [Act.put]
        refine wpAnyH_take (i := 4) (v := .slice (some ⟨b, o, none⟩) (k + 1) cap') rfl (by kernel_rfl) (by kernel_rfl) (by kernel_rfl) (fun _ _ _ h => h) (Or.inl ⟨by kernel_rfl, ?_⟩) hS ?_
        · (intro w' hSw; have z0 := (cell_of_row w' _ 0 _ _ _ hSw.1).trans rfl; go_simp)
        try simp only [Act.put]
        refine wpAnyH_take (i := 5) (v := .pointer (some ⟨b, o, none⟩)) rfl (by kernel_rfl) (by kernel_rfl) (by kernel_rfl) (fun _ _ _ h => h) (Or.inl ⟨by kernel_rfl, ?_⟩) hS ?_
        · (intro w' hSw; go_simp)
        try simp only [Act.put]
        refine wpAnyH_take (i := 6) (v := .iface T (.agg A)) rfl (by kernel_rfl) (by kernel_rfl) (by kernel_rfl) (fun _ _ _ h => h) (Or.inl ⟨by kernel_rfl, ?_⟩) hS ?_
        · (intro w' hSw; have z0 := hSw.2.2; go_simp)
        try simp only [Act.put]
        refine wpAnyH_take (i := 8) (v := .pointer (some ⟨w.heap.size, 0, none⟩)) rfl (by kernel_rfl) (by kernel_rfl) (by kernel_rfl) (fun _ _ _ h => h) (Or.inl ⟨by kernel_rfl, ?_⟩) hS ?_
        · (intro w' hSw; go_simp)
        try simp only [Act.put]
        refine wpAnyH_take (i := 9) (v := .string s) rfl (by kernel_rfl) (by kernel_rfl) (by kernel_rfl) (fun _ _ _ h => h) (Or.inl ⟨by kernel_rfl, ?_⟩) hS ?_
        · (intro w' hSw; have z0 := (cell_of_row w' _ 0 _ _ _ hSw.2.1).trans rfl; go_simp)
        try simp only [Act.put]
        refine wpAnyH_ready (rs := [7]) (by kernel_rfl) (by simp) ?_
        refine AllReadyH.cons rfl (fun K hK => ?_) AllReadyH.nil
        go_simp
        refine (HSUM.out _ HWB.out).mono ?_
        rintro e w1 ⟨rfl, b1⟩
        rw [← HE.out]
        have hS1 := ckS_later hS b1
        have HB1 : Hid (Below w.heap.size w w1) := HWB.out.trans (b1.mono HWB.out.size)
        clear b1
        refine hK.out _ _ hS1 (fun _ => ?_)
        clear hK K
        try simp only [Act.put]
        refine wpAnyH_take (i := 10) (v := .bool true) rfl (by kernel_rfl) (by kernel_rfl) (by kernel_rfl) (fun _ _ _ h => h) (Or.inl ⟨by kernel_rfl, ?_⟩) hS1 ?_
        · (intro w' hSw; go_simp)
        try simp only [Act.put]
        refine wpAnyH_take (i := 11) (v := .bool true) rfl (by kernel_rfl) (by kernel_rfl) (by kernel_rfl) (fun _ _ _ h => h) (Or.inl ⟨by kernel_rfl, ?_⟩) hS1 ?_
        · (intro w' hSw; go_simp)
        try simp only [Act.put]
        refine wpAnyH_done (by kernel_rfl) ?_ _
        clear hS hS1
        go_wp2_with fail
        exact bodyPost_ret (v := .tuple #[.nilIface, .bool false]) (by simp [results, Tryz.results125, go_sem]) rfl ⟨_, _, rfl, HB.out.trans (HB1.out.mono (Nat.le_of_lt hlt)), (fun h => by cases h), fun _ => ⟨left_later HL.out hlt HB1.out, .inr ⟨hjl, HNE.out⟩⟩⟩
end
end Go.Proofs.YtbmohenjphmlgaaGreat
