/- Part 15 of a proof: what the last text needs. -/
import Derived.Test.YtbmohenjphmlgabGreatPart14
import Derived.Test.YtbmohenjphmlgabGreatPart10
/- The walk of readAll (of the program): the nodes of a proof. -/
namespace Go.Proofs.YtbmohenjphmlgabGreat
open Go.RowKit
set_option maxRecDepth 100000

/-- What readAll tells. -/
def RAll (p : List ByteArray) (w : World) (e : Ending) (w' : World) : Prop := ∃ r ok, e = .returned (.tuple #[r, .bool ok]) ∧ Below w.heap.size w w' ∧ (ok = false → r = .slice none 0 0 ∧ ∃ s ∈ p, Tr.reads s.data.toList = none) ∧
      (ok = true → ∃ vs, NOwn w' w.heap.size r vs ∧ NodesOf w.heap.size r.ownBlock w'.heap.size w' vs p)

set_option maxHeartbeats 3200000 in
theorem readAll_any (a : Option Addr) (cap : Nat) (p : List ByteArray) (w : World) (hr : SRd w.heap.size w a p) (hl : p.length ≤ 1000) (hs : ∀ s ∈ p, s.size ≤ 1000) :
    Calls Tryz.prog 86 #[.slice a p.length cap] w (RAll p w) := by
  have HR := hid hr
  have HS := hid hs
  clear hr hs
  go_enter Tryz.func86, Tryz.ntmps86
  go_wp2_with fail
  go_loopw [4, 11] (fun v i wr => ∃ (k : Nat) (vs : List Value), i = .int .i64 k ∧ k ≤ p.length ∧ vs.length = k ∧ Hid (NOwn wr w.heap.size v vs ∧ NodesOf w.heap.size v.ownBlock wr.heap.size wr vs (p.take k) ∧ Below w.heap.size w wr)) (fun _ i _ => p.length - (intOf i).toNat)
  case atStart => exact ⟨0, [], rfl, Nat.zero_le _, rfl, nown_nil _ _, nodes_nil _ _ _ _, Below.refl _ _⟩
  case round =>
    obtain ⟨k, vs, rfl, hk, hvs, HH⟩ := hrel
    have HVL := hid hvs
    clear hvs
    obtain ⟨av, cv, hv, _⟩ := nown_shape HH.out.1
    subst hv
    by_cases hlt : k < p.length
    · obtain ⟨b, off, rfl, hb, e0⟩ := HR.out k hlt
      have f0 := (HH.out.2.2.cell (p := ⟨b, off + k, none⟩) hb).trans e0
      have i1 : (0 : Int) ≤ (k : Int) := by omega
      have i2 : (k : Int) < (p.length : Int) := by omega
      have hbw : b < wr.heap.size := Nat.lt_of_lt_of_le hb HH.out.2.2.size
      have HTK : Hid (p.take (k + 1) = p.take k ++ [p[k]]) := List.take_succ_eq_append_getElem hlt
      have HRE := hid (read_any p[k] wr (HS.out _ (List.getElem_mem hlt)))
      have HMM : Hid (p[k] ∈ p) := List.getElem_mem hlt
      generalize p[k] = s at *
      clear e0
      go_wp2_with fail
      refine HRE.out.mono ?_
      rintro e w1 ⟨v1, rfl, n1, r1, b1⟩
      have HN1 := hid n1
      have HR1 := hid r1
      have HB1 := hid b1
      clear n1 r1 b1
      cases hrs : Tr.reads s.data.toList with
      | none =>
        have HRS := hid hrs
        clear hrs
        go_wp2_with fail
        exact bodyPost_ret (v := .tuple #[.slice none 0 0, .bool false]) (by simp [results, Tryz.results86, go_sem]) rfl ⟨_, _, rfl, HH.out.2.2.trans (HB1.out.mono HH.out.2.2.size), fun _ => ⟨rfl, s, HMM.out, HRS.out⟩, fun h => by cases h⟩
      | some t =>
        have HRS := hid hrs
        have HO1 := hid (nown_later HH.out.1 HB1.out)
        have HB2 : Hid (Below w.heap.size w w1) := HH.out.2.2.trans (HB1.out.mono HH.out.2.2.size)
        have HLE : Hid (vs.length ≤ 1000000) := by rw [Hid, HVL.out]; omega
        clear hrs
        have hn1 := HN1.out
        rcases hn1 with rfl | ⟨T, y, rfl⟩
        all_goals
          go_wp2_with (at_builtin; go_loud (refine wpList_push_node rfl (.tmp 22) (.tmp 24) rfl _ HN1.out w1.heap.size rfl rfl rfl HO1.out (Below.refl _ _) HB2.out (Nat.le_refl _) HLE.out ?_); intro v' w' ho' hb' hk' hn' hz'; have HO' := hid ho'; have HB' := hid hb'; have HK' := hid (And.intro hk' hn'); have HZ' := hid hz'; clear ho' hb' hk' hn' hz')
          refine ⟨⟨k + 1, vs ++ [_], by go_num, by omega, by rw [List.length_append, HVL.out]; rfl, HO'.out, ?_, HB'.out⟩, by simp [intOf]; omega⟩
          obtain ⟨B, m, hB, hrn⟩ := HR1.out t HRS.out
          rw [HTK.out]
          have hC : Below wr.heap.size wr w1 := HB1.out
          refine nodes_turn (nodes_snoc (nodes_wider (nodes_later HH.out.2.1 hC) hC.size) HH.out.2.2.size HRS.out hB (fun b hb => .inl (nown_lt HH.out.1 b hb).2) hrn) HZ'.out HK'.out.2 HK'.out.1
    · obtain rfl : k = p.length := by omega
      have HO := hid HH.out.1
      have HNN := hid HH.out.2.1
      have HB := hid HH.out.2.2
      rw [List.take_length] at HNN
      clear HH hlt
      have i2 : ¬ (p.length : Int) < (p.length : Int) := by omega
      go_wp2_with fail
      exact bodyPost_ret (v := .tuple #[.slice av vs.length cv, .bool true]) (by simp [results, Tryz.results86, go_sem]) rfl ⟨_, _, rfl, HB.out, (fun h => by cases h), fun _ => ⟨vs, HO.out, HNN.out⟩⟩
end Go.Proofs.YtbmohenjphmlgabGreat

/- The walk of the finder in check (of the program): it takes the next node of the proof. -/
namespace Go.Proofs.YtbmohenjphmlgabGreat
open Go.RowKit
set_option maxRecDepth 100000

/-- What is left of a proof of n elements behind its first j: the variable at block c. -/
def LeftAt (w : World) (c : Nat) (a : Option Addr) (n j : Nat) : Prop :=
  ∃ a' cap', w.heap[c]? = some (.cells #[.slice a' (n - j) cap'] 95 (0, 0)) ∧ n - j ≤ cap' ∧ (∀ b off, a = some ⟨b, off, none⟩ → j < n → a' = some ⟨b, off + j, none⟩)

/-- The rest of a row of nodes, cut off by its start: for a walk. -/
theorem wpList_node_from {ops : Array Oper} {rest : List Oper} {o : Oper} {act : Act} {Q : Exit → Act → World → Prop} {w : World} (hgd : o.guard = none) (s x : Operand)
    (hop : o.op = .slice 95 s (some x) none none) (a : Option Addr) (len cap : Nat) (hs : act.eval s = .slice a len cap) (hx : act.eval x = .int .i64 1) (hn : 1 ≤ len)
    (h : ∀ a', a' = (if cap = 1 then a else a.map (·.add 1)) → wpList Tryz.prog ops Q rest (act.put o.dst (.slice a' (len - 1) (cap - 1))) w) :
    wpList Tryz.prog ops Q (o :: rest) act w := by
  refine wpList_plain hgd fun K hK => ?_
  have hu := Tryz.underlying95
  have hz := Tryz.sizeOf69
  have i1 : (1 : Int) ≤ (len : Int) := by omega
  have hr : Sem.run Tryz.prog (Instr.sliceAt 95 (.slice a len cap) (some (.int .i64 1)) none none) w = .ok (.slice (if cap = 1 then a else a.map (·.add 1)) (len - 1) (cap - 1)) w := by
    go_simp
  unfold Oper.wp execOp
  simp only [hop, Sem.run_bind, Sem.run_pure, Result.andThen_ok, Option.map_some, Option.map_none, hs, hx, hr]
  exact hK _ _ (h _ rfl)

theorem reads_small {s : ByteArray} {t : Itm} (hs : s.size ≤ 1000) (h : Tr.reads s.data.toList = some t) : Small t ∧ s.data.toList = Itm.enc t ∧ Tr.sound t = true := by
  obtain ⟨h1, h2⟩ := Tr.reads_some h
  obtain ⟨h3, h4⟩ := Tr.whole_enc_eq h1
  exact ⟨⟨h4, Tr.sound_deep h2, by rw [← h3, ba_len]; exact hs⟩, h3, h2⟩

theorem left_later {w w' : World} {c : Nat} {a : Option Addr} {n j : Nat} (h : LeftAt w c a n j) (hc : c < w.heap.size) (hb : Below w.heap.size w w') : LeftAt w' c a n j := by
  obtain ⟨a', cap', h1, h2⟩ := h
  exact ⟨a', cap', (hb.block c hc).trans h1, h2⟩

theorem left_lt {w : World} {c : Nat} {a : Option Addr} {n j : Nat} (h : LeftAt w c a n j) : c < w.heap.size := by
  obtain ⟨a', cap', h1, h2⟩ := h
  exact (Array.getElem?_eq_some_iff.1 h1).1

theorem bytes_neq {a b : ByteArray} (h : a ≠ b) : (a.toList == b.toList) = false := by
  rw [beq_eq_false_iff_ne]
  intro e
  apply h
  rw [ByteArray.toList_eq, ByteArray.toList_eq] at e
  cases a; cases b
  simp only [Array.toList_inj] at e
  rw [e]

/-- One element less is left. -/
theorem left_next {w1 : World} {c b off o j n k cap' : Nat} {a a2 : Option Addr} (hc : w1.heap[c]? = some (.cells #[.slice (some ⟨b, o, none⟩) (k + 1) cap'] 95 (0, 0))) (hk : n - j = k + 1) (hcap : k + 1 ≤ cap') (ha : a = some ⟨b, off, none⟩) (ho : o = off + j) (h2 : a2 = (if cap' = 1 then some ⟨b, o, none⟩ else (some (⟨b, o, none⟩ : Addr)).map (·.add 1))) : LeftAt (w1.setCell ⟨c, 0, none⟩ (.slice a2 k (cap' - 1))) c a n (j + 1) := by
  refine ⟨a2, cap' - 1, ?_, by omega, fun b' off' ha' hj => ?_⟩
  · rw [show n - (j + 1) = k by omega]
    exact heap_setCell_same _ _ _ _ _ _ hc
  · rw [ha] at ha'
    cases ha'
    rw [if_neg (by omega)] at h2
    rw [h2, ho]
    show some ((⟨b, off + j, none⟩ : Addr).add 1) = _
    congr 1

/-- What the finder reads. -/
def CkS (c u b o k cap : Nat) (s : ByteArray) (n v : Value) (w : World) : Prop := w.heap[c]? = some (.cells #[.slice (some ⟨b, o, none⟩) (k + 1) cap] 95 (0, 0)) ∧ w.heap[u]? = some (.cells #[.string s, n] 109 (0, 0)) ∧ w.cell? ⟨b, o, none⟩ = some v

theorem ckS_later {c u b o k cap : Nat} {s : ByteArray} {n v : Value} {w w' : World} (h : CkS c u b o k cap s n v w) (hb : Below w.heap.size w w') : CkS c u b o k cap s n v w' :=
  ⟨kept_block hb h.1, kept_block hb h.2.1, (hb.cell (p := ⟨b, o, none⟩) (World.block_lt_of_cell? w _ h.2.2)).trans h.2.2⟩

section
variable {W : World} {a : Option Addr} {vs : List Value} {p : List ByteArray} {L : Nat} {g : Option Nat} (hrd : NRd W.heap.size W a vs) (hno : NodesOf L g W.heap.size W vs p) (hsz : ∀ s ∈ p, s.size ≤ 1000)
include hrd hno hsz

set_option maxHeartbeats 3200000 in
theorem check1_any (s : ByteArray) (n : Value) (hn : IsNode n) (w : World) (hB : Below W.heap.size W w) (j : Nat) (hj : j ≤ p.length) (hl : LeftAt w W.heap.size a p.length j) :
    Calls Tryz.prog 87 #[.agg #[.string s, n], .pointer (some ⟨W.heap.size, 0, none⟩)] w fun e w' => ∃ v ok, e = .returned (.tuple #[v, .bool ok]) ∧ Below W.heap.size W w' ∧
      (ok = true → ∃ h : j < p.length, vs[j]? = some v ∧ Tr.sum p[j].data.toList = s.data.toList ∧ LeftAt w' W.heap.size a p.length (j + 1)) ∧
      (ok = false → LeftAt w' W.heap.size a p.length j ∧ (j = p.length ∨ ∃ h : j < p.length, Tr.sum p[j].data.toList ≠ s.data.toList)) := by
  have HL := hid hl
  have HB := hid hB
  obtain ⟨a', cap', hc, hcap, ha'⟩ := hl
  obtain ⟨c, hcW⟩ : ∃ c, c = W.heap.size := ⟨_, rfl⟩
  rw [← hcW] at hc HL HB ⊢
  have HCW := hid hcW
  clear hcW
  have hlt : c < w.heap.size := (Array.getElem?_eq_some_iff.1 hc).1
  have hne : ¬ c = w.heap.size := by omega
  by_cases hjn : j = p.length
  · have hk0 : p.length - j = 0 := by omega
    rw [hk0] at hc
    have z0 := (cell_of_row _ _ 0 _ _ _ hc).trans rfl
    have HJN := hid hjn
    clear hc hcap ha' hjn hrd hno hsz hB hj hk0
    rcases hn with rfl | ⟨T, y, rfl⟩
    all_goals
      go_enter Tryz.func87, Tryz.ntmps87
      go_wp2_with fail
      go_quiet (fail)
      go_wp2_with fail
      have hbn := fun (O : Obj) => below_drewN ((Below.refl w.heap.size w).alloc (Nat.le_refl _) O) nq
      exact bodyPost_ret (v := .tuple #[.nilIface, .bool false]) (by simp [results, Tryz.results87, go_sem]) rfl ⟨_, _, rfl, HB.out.trans ((hbn _).mono (Nat.le_of_lt hlt)), (fun h => by cases h), fun _ => ⟨left_later HL.out hlt (hbn _), .inl HJN.out⟩⟩
  · have hjl : j < p.length := by omega
    obtain ⟨v, t, lo, B, m, e1, e2, e3, _, e4⟩ := hno.2 j hjl
    obtain ⟨hsm, henc, hsd⟩ := reads_small (hsz _ (List.getElem_mem hjl)) e2
    obtain ⟨k', l', s', a1, n1, cap1, hnd, hrep, _⟩ := rn_nd hsm.pure e4
    obtain ⟨m, rfl⟩ : ∃ m', m = m' + 1 := by
      cases m with
      | zero => exact e4.elim
      | succ m => exact ⟨m, rfl⟩
    have hvl : j < vs.length := by rw [hno.1]; exact hjl
    obtain ⟨b, off, hab, hb, hcell⟩ := hrd j hvl
    have hvj : vs[j] = v := by rw [List.getElem?_eq_getElem hvl] at e1; exact Option.some.inj e1
    have haj := ha' b off hab hjl
    rw [hvj] at hcell
    have hcw := (hB.cell (p := ⟨b, off + j, none⟩) hb).trans hcell
    have HSUM := hid (fun w' (bb : Below w.heap.size w w') => commonSum_any k' a1 n1 cap1 l' s' m t w' hsm (rep_wider (Nat.le_trans (Nat.le_trans e3 hB.size) bb.size) _ _ _ (rep_frame ((hB.trans (bb.mono hB.size)).mono e3) _ _ _ hrep)))
    obtain ⟨E, hE⟩ : ∃ E : ByteArray, E = ⟨(Tr.sum (Itm.enc t)).toArray⟩ := ⟨_, rfl⟩
    have HE := hid hE
    have hEd : E.data.toList = Tr.sum p[j].data.toList := by rw [hE, henc]
    obtain ⟨T, A, rfl, _, _, _, hm⟩ := nd_call hnd
    obtain ⟨k, hk⟩ : ∃ k, p.length - j = k + 1 := ⟨p.length - j - 1, by omega⟩
    have HK := hid hk
    have HV := hid e1
    have HAB := hid hab
    rw [hk] at hc hcap
    subst haj
    obtain ⟨o, ho⟩ : ∃ o, o = off + j := ⟨_, rfl⟩
    have HO := hid ho
    rw [← ho] at hc hcw
    have HJ := hid hj
    have hk0 : ¬ (k : Int) + 1 = 0 := by omega
    have hkk : (0 : Int) < (k : Int) + 1 := by omega
    clear hE e1 e2 e3 e4 hsm hsd hrep hnd hvj hcell hvl hno hsz hrd hB hj hab ha' ho hjn hk
    obtain ⟨nn, hnn⟩ : ∃ nn, nn = n := ⟨_, rfl⟩
    rw [← hnn] at hn ⊢
    clear hnn
    by_cases heq : E = s
    · have he : (E.toList == s.toList) = true := by rw [heq]; exact beq_self_eq_true _
      have HSQ : Hid (Tr.sum p[j].data.toList = s.data.toList) := by rw [Hid, ← hEd, heq]
      clear hEd henc heq
      rcases hn with rfl | ⟨Tn, yn, rfl⟩
      · go_enter Tryz.func87, Tryz.ntmps87
        go_wp2_with fail
        have HWB : Hid (Below w.heap.size w (w.alloc (.cells #[.string s, .nilIface] 109)).drew) := ((Below.refl _ _).alloc (Nat.le_refl _) _).drew
        have hS : CkS c w.heap.size b o k cap' s .nilIface (.iface T (.agg A)) (w.alloc (.cells #[.string s, .nilIface] 109)).drew := ⟨(HWB.out.block _ hlt).trans hc, heap_alloc_new w _, (HWB.out.cell (p := ⟨b, o, none⟩) (World.block_lt_of_cell? w _ hcw)).trans hcw⟩
        refine wp_region_held_drew (S := CkS c w.heap.size b o k cap' s .nilIface (.iface T (.agg A))) (by kernel_rfl) hS (fun _ => ?_)
        refine wpAnyH_take (i := 0) (v := .slice (some ⟨b, o, none⟩) (k + 1) cap') rfl (by kernel_rfl) (by kernel_rfl) (by kernel_rfl) (fun _ _ _ h => h) (Or.inl ⟨by kernel_rfl, ?_⟩) hS ?_
        · (intro w' hSw; have z0 := (cell_of_row w' _ 0 _ _ _ hSw.1).trans rfl; go_simp)
        try simp only [Act.put]
        refine wpAnyH_take (i := 1) (v := .int .i64 ((k + 1 : Nat) : Int)) rfl (by kernel_rfl) (by kernel_rfl) (by kernel_rfl) (fun _ _ _ h => h) (Or.inl ⟨by kernel_rfl, ?_⟩) hS ?_
        · (intro w' hSw; go_simp)
        try simp only [Act.put]
        refine wpAnyH_take (i := 2) (v := .bool false) rfl (by kernel_rfl) (by kernel_rfl) (by kernel_rfl) (fun _ _ _ h => h) (Or.inl ⟨by kernel_rfl, ?_⟩) hS ?_
        · (intro w' hSw; go_simp)
        try simp only [Act.put]
        refine wpAnyH_take (i := 3) (v := .bool false) rfl (by kernel_rfl) (by kernel_rfl) (by kernel_rfl) (fun _ _ _ h => h) (Or.inl ⟨by kernel_rfl, ?_⟩) hS ?_
        · (intro w' hSw; go_simp)
        try simp only [Act.put]
        refine wpAnyH_take (i := 4) (v := .slice (some ⟨b, o, none⟩) (k + 1) cap') rfl (by kernel_rfl) (by kernel_rfl) (by kernel_rfl) (fun _ _ _ h => h) (Or.inl ⟨by kernel_rfl, ?_⟩) hS ?_
        · (intro w' hSw; have z0 := (cell_of_row w' _ 0 _ _ _ hSw.1).trans rfl; go_simp)
        try simp only [Act.put]
        refine wpAnyH_take (i := 5) (v := .pointer (some ⟨b, o, none⟩)) rfl (by kernel_rfl) (by kernel_rfl) (by kernel_rfl) (fun _ _ _ h => h) (Or.inl ⟨by kernel_rfl, ?_⟩) hS ?_
        · (intro w' hSw; go_simp)
        try simp only [Act.put]
        refine wpAnyH_take (i := 6) (v := .iface T (.agg A)) rfl (by kernel_rfl) (by kernel_rfl) (by kernel_rfl) (fun _ _ _ h => h) (Or.inl ⟨by kernel_rfl, ?_⟩) hS ?_
        · (intro w' hSw; have z0 := hSw.2.2; go_simp)
        try simp only [Act.put]
        refine wpAnyH_take (i := 8) (v := .pointer (some ⟨w.heap.size, 0, none⟩)) rfl (by kernel_rfl) (by kernel_rfl) (by kernel_rfl) (fun _ _ _ h => h) (Or.inl ⟨by kernel_rfl, ?_⟩) hS ?_
        · (intro w' hSw; go_simp)
        try simp only [Act.put]
        refine wpAnyH_take (i := 9) (v := .string s) rfl (by kernel_rfl) (by kernel_rfl) (by kernel_rfl) (fun _ _ _ h => h) (Or.inl ⟨by kernel_rfl, ?_⟩) hS ?_
        · (intro w' hSw; have z0 := (cell_of_row w' _ 0 _ _ _ hSw.2.1).trans rfl; go_simp)
        try simp only [Act.put]
        refine wpAnyH_ready (rs := [7]) (by kernel_rfl) (by simp) ?_
        refine AllReadyH.cons rfl (fun K hK => ?_) AllReadyH.nil
        go_simp
        refine (HSUM.out _ HWB.out).mono ?_
        rintro e w1 ⟨rfl, b1⟩
        rw [← HE.out]
        have hS1 := ckS_later hS b1
        have HB1 : Hid (Below w.heap.size w w1) := HWB.out.trans (b1.mono HWB.out.size)
        clear b1
        refine hK.out _ _ hS1 (fun _ => ?_)
        clear hK K
        try simp only [Act.put]
        refine wpAnyH_take (i := 10) (v := .bool false) rfl (by kernel_rfl) (by kernel_rfl) (by kernel_rfl) (fun _ _ _ h => h) (Or.inl ⟨by kernel_rfl, ?_⟩) hS1 ?_
        · (intro w' hSw; go_simp)
        try simp only [Act.put]
        refine wpAnyH_take (i := 11) (v := .bool false) rfl (by kernel_rfl) (by kernel_rfl) (by kernel_rfl) (fun _ _ _ h => h) (Or.inl ⟨by kernel_rfl, ?_⟩) hS1 ?_
        · (intro w' hSw; go_simp)
        try simp only [Act.put]
        refine wpAnyH_done (by kernel_rfl) ?_ _
        have z0 := (cell_of_row _ _ 0 _ _ _ hS1.1).trans rfl
        have z1 := hS1.2.2
        have hf0 := frozen_of_row _ _ 0 _ _ hS1.1
        have HC1 := hid hS1.1
        have hbw : b < w1.heap.size := World.block_lt_of_cell? w1 _ z1
        have hk1 : (0 : Int) < ((k + 1 : Nat) : Int) := by omega
        clear hS hS1 hc
        go_wp2_with (refine wpList_node_from rfl (.tmp 21) (.const (.int .i64 1)) rfl (some ⟨b, o, none⟩) (k + 1) cap' rfl rfl (by omega) ?_; intro a2 ha2; have HA2 := hid ha2; clear ha2)
        have HLN := left_next HC1.out HK.out hcap HAB.out HO.out HA2.out
        exact bodyPost_ret (v := .tuple #[.iface T (.agg A), .bool true]) (by simp [results, Tryz.results87, go_sem]) rfl ⟨_, _, rfl, (HB.out.trans (HB1.out.mono (Nat.le_of_lt hlt))).setCell (p := ⟨c, 0, none⟩) (Nat.le_refl _) _, fun _ => ⟨hjl, HV.out, HSQ.out, HLN⟩, (fun h => by cases h)⟩
      · go_enter Tryz.func87, Tryz.ntmps87
        go_wp2_with fail
        have HWB : Hid (Below w.heap.size w (w.alloc (.cells #[.string s, (.iface Tn yn)] 109)).drew) := ((Below.refl _ _).alloc (Nat.le_refl _) _).drew
        have hS : CkS c w.heap.size b o k cap' s (.iface Tn yn) (.iface T (.agg A)) (w.alloc (.cells #[.string s, (.iface Tn yn)] 109)).drew := ⟨(HWB.out.block _ hlt).trans hc, heap_alloc_new w _, (HWB.out.cell (p := ⟨b, o, none⟩) (World.block_lt_of_cell? w _ hcw)).trans hcw⟩
        refine wp_region_held_drew (S := CkS c w.heap.size b o k cap' s (.iface Tn yn) (.iface T (.agg A))) (by kernel_rfl) hS (fun _ => ?_)
        refine wpAnyH_take (i := 0) (v := .slice (some ⟨b, o, none⟩) (k + 1) cap') rfl (by kernel_rfl) (by kernel_rfl) (by kernel_rfl) (fun _ _ _ h => h) (Or.inl ⟨by kernel_rfl, ?_⟩) hS ?_
        · (intro w' hSw; have z0 := (cell_of_row w' _ 0 _ _ _ hSw.1).trans rfl; go_simp)
        try simp only [Act.put]
        refine wpAnyH_take (i := 1) (v := .int .i64 ((k + 1 : Nat) : Int)) rfl (by kernel_rfl) (by kernel_rfl) (by kernel_rfl) (fun _ _ _ h => h) (Or.inl ⟨by kernel_rfl, ?_⟩) hS ?_
        · (intro w' hSw; go_simp)
        try simp only [Act.put]
        refine wpAnyH_take (i := 2) (v := .bool false) rfl (by kernel_rfl) (by kernel_rfl) (by kernel_rfl) (fun _ _ _ h => h) (Or.inl ⟨by kernel_rfl, ?_⟩) hS ?_
        · (intro w' hSw; go_simp)
        try simp only [Act.put]
        refine wpAnyH_take (i := 3) (v := .bool false) rfl (by kernel_rfl) (by kernel_rfl) (by kernel_rfl) (fun _ _ _ h => h) (Or.inl ⟨by kernel_rfl, ?_⟩) hS ?_
        · (intro w' hSw; go_simp)
        try simp only [Act.put]
        refine wpAnyH_take (i := 4) (v := .slice (some ⟨b, o, none⟩) (k + 1) cap') rfl (by kernel_rfl) (by kernel_rfl) (by kernel_rfl) (fun _ _ _ h => h) (Or.inl ⟨by kernel_rfl, ?_⟩) hS ?_
        · (intro w' hSw; have z0 := (cell_of_row w' _ 0 _ _ _ hSw.1).trans rfl; go_simp)
        try simp only [Act.put]
        refine wpAnyH_take (i := 5) (v := .pointer (some ⟨b, o, none⟩)) rfl (by kernel_rfl) (by kernel_rfl) (by kernel_rfl) (fun _ _ _ h => h) (Or.inl ⟨by kernel_rfl, ?_⟩) hS ?_
        · (intro w' hSw; go_simp)
        try simp only [Act.put]
        refine wpAnyH_take (i := 6) (v := .iface T (.agg A)) rfl (by kernel_rfl) (by kernel_rfl) (by kernel_rfl) (fun _ _ _ h => h) (Or.inl ⟨by kernel_rfl, ?_⟩) hS ?_
        · (intro w' hSw; have z0 := hSw.2.2; go_simp)
        try simp only [Act.put]
        refine wpAnyH_take (i := 8) (v := .pointer (some ⟨w.heap.size, 0, none⟩)) rfl (by kernel_rfl) (by kernel_rfl) (by kernel_rfl) (fun _ _ _ h => h) (Or.inl ⟨by kernel_rfl, ?_⟩) hS ?_
        · (intro w' hSw; go_simp)
        try simp only [Act.put]
        refine wpAnyH_take (i := 9) (v := .string s) rfl (by kernel_rfl) (by kernel_rfl) (by kernel_rfl) (fun _ _ _ h => h) (Or.inl ⟨by kernel_rfl, ?_⟩) hS ?_
        · (intro w' hSw; have z0 := (cell_of_row w' _ 0 _ _ _ hSw.2.1).trans rfl; go_simp)
        try simp only [Act.put]
        refine wpAnyH_ready (rs := [7]) (by kernel_rfl) (by simp) ?_
        refine AllReadyH.cons rfl (fun K hK => ?_) AllReadyH.nil
        go_simp
        refine (HSUM.out _ HWB.out).mono ?_
        rintro e w1 ⟨rfl, b1⟩
        rw [← HE.out]
        have hS1 := ckS_later hS b1
        have HB1 : Hid (Below w.heap.size w w1) := HWB.out.trans (b1.mono HWB.out.size)
        clear b1
        refine hK.out _ _ hS1 (fun _ => ?_)
        clear hK K
        try simp only [Act.put]
        refine wpAnyH_take (i := 10) (v := .bool false) rfl (by kernel_rfl) (by kernel_rfl) (by kernel_rfl) (fun _ _ _ h => h) (Or.inl ⟨by kernel_rfl, ?_⟩) hS1 ?_
        · (intro w' hSw; go_simp)
        try simp only [Act.put]
        refine wpAnyH_take (i := 11) (v := .bool false) rfl (by kernel_rfl) (by kernel_rfl) (by kernel_rfl) (fun _ _ _ h => h) (Or.inl ⟨by kernel_rfl, ?_⟩) hS1 ?_
        · (intro w' hSw; go_simp)
        try simp only [Act.put]
        refine wpAnyH_done (by kernel_rfl) ?_ _
        have z0 := (cell_of_row _ _ 0 _ _ _ hS1.1).trans rfl
        have z1 := hS1.2.2
        have hf0 := frozen_of_row _ _ 0 _ _ hS1.1
        have HC1 := hid hS1.1
        have hbw : b < w1.heap.size := World.block_lt_of_cell? w1 _ z1
        have hk1 : (0 : Int) < ((k + 1 : Nat) : Int) := by omega
        clear hS hS1 hc
        go_wp2_with (refine wpList_node_from rfl (.tmp 21) (.const (.int .i64 1)) rfl (some ⟨b, o, none⟩) (k + 1) cap' rfl rfl (by omega) ?_; intro a2 ha2; have HA2 := hid ha2; clear ha2)
        have HLN := left_next HC1.out HK.out hcap HAB.out HO.out HA2.out
        exact bodyPost_ret (v := .tuple #[.iface T (.agg A), .bool true]) (by simp [results, Tryz.results87, go_sem]) rfl ⟨_, _, rfl, (HB.out.trans (HB1.out.mono (Nat.le_of_lt hlt))).setCell (p := ⟨c, 0, none⟩) (Nat.le_refl _) _, fun _ => ⟨hjl, HV.out, HSQ.out, HLN⟩, (fun h => by cases h)⟩
    · have he : (E.toList == s.toList) = false := bytes_neq heq
      have HNE : Hid (Tr.sum p[j].data.toList ≠ s.data.toList) := by
        rw [Hid, ← hEd]
        intro e
        exact heq (by cases E; cases s; simp_all)
      clear hEd henc heq
      rcases hn with rfl | ⟨Tn, yn, rfl⟩
      · go_enter Tryz.func87, Tryz.ntmps87
        go_wp2_with fail
        have HWB : Hid (Below w.heap.size w (w.alloc (.cells #[.string s, .nilIface] 109)).drew) := ((Below.refl _ _).alloc (Nat.le_refl _) _).drew
        have hS : CkS c w.heap.size b o k cap' s .nilIface (.iface T (.agg A)) (w.alloc (.cells #[.string s, .nilIface] 109)).drew := ⟨(HWB.out.block _ hlt).trans hc, heap_alloc_new w _, (HWB.out.cell (p := ⟨b, o, none⟩) (World.block_lt_of_cell? w _ hcw)).trans hcw⟩
        refine wp_region_held_drew (S := CkS c w.heap.size b o k cap' s .nilIface (.iface T (.agg A))) (by kernel_rfl) hS (fun _ => ?_)
        refine wpAnyH_take (i := 0) (v := .slice (some ⟨b, o, none⟩) (k + 1) cap') rfl (by kernel_rfl) (by kernel_rfl) (by kernel_rfl) (fun _ _ _ h => h) (Or.inl ⟨by kernel_rfl, ?_⟩) hS ?_
        · (intro w' hSw; have z0 := (cell_of_row w' _ 0 _ _ _ hSw.1).trans rfl; go_simp)
        try simp only [Act.put]
        refine wpAnyH_take (i := 1) (v := .int .i64 ((k + 1 : Nat) : Int)) rfl (by kernel_rfl) (by kernel_rfl) (by kernel_rfl) (fun _ _ _ h => h) (Or.inl ⟨by kernel_rfl, ?_⟩) hS ?_
        · (intro w' hSw; go_simp)
        try simp only [Act.put]
        refine wpAnyH_take (i := 2) (v := .bool false) rfl (by kernel_rfl) (by kernel_rfl) (by kernel_rfl) (fun _ _ _ h => h) (Or.inl ⟨by kernel_rfl, ?_⟩) hS ?_
        · (intro w' hSw; go_simp)
        try simp only [Act.put]
        refine wpAnyH_take (i := 3) (v := .bool false) rfl (by kernel_rfl) (by kernel_rfl) (by kernel_rfl) (fun _ _ _ h => h) (Or.inl ⟨by kernel_rfl, ?_⟩) hS ?_
        · (intro w' hSw; go_simp)
        try simp only [Act.put]
        refine wpAnyH_take (i := 4) (v := .slice (some ⟨b, o, none⟩) (k + 1) cap') rfl (by kernel_rfl) (by kernel_rfl) (by kernel_rfl) (fun _ _ _ h => h) (Or.inl ⟨by kernel_rfl, ?_⟩) hS ?_
        · (intro w' hSw; have z0 := (cell_of_row w' _ 0 _ _ _ hSw.1).trans rfl; go_simp)
        try simp only [Act.put]
        refine wpAnyH_take (i := 5) (v := .pointer (some ⟨b, o, none⟩)) rfl (by kernel_rfl) (by kernel_rfl) (by kernel_rfl) (fun _ _ _ h => h) (Or.inl ⟨by kernel_rfl, ?_⟩) hS ?_
        · (intro w' hSw; go_simp)
        try simp only [Act.put]
        refine wpAnyH_take (i := 6) (v := .iface T (.agg A)) rfl (by kernel_rfl) (by kernel_rfl) (by kernel_rfl) (fun _ _ _ h => h) (Or.inl ⟨by kernel_rfl, ?_⟩) hS ?_
        · (intro w' hSw; have z0 := hSw.2.2; go_simp)
        try simp only [Act.put]
        refine wpAnyH_take (i := 8) (v := .pointer (some ⟨w.heap.size, 0, none⟩)) rfl (by kernel_rfl) (by kernel_rfl) (by kernel_rfl) (fun _ _ _ h => h) (Or.inl ⟨by kernel_rfl, ?_⟩) hS ?_
        · (intro w' hSw; go_simp)
        try simp only [Act.put]
        refine wpAnyH_take (i := 9) (v := .string s) rfl (by kernel_rfl) (by kernel_rfl) (by kernel_rfl) (fun _ _ _ h => h) (Or.inl ⟨by kernel_rfl, ?_⟩) hS ?_
        · (intro w' hSw; have z0 := (cell_of_row w' _ 0 _ _ _ hSw.2.1).trans rfl; go_simp)
        try simp only [Act.put]
        refine wpAnyH_ready (rs := [7]) (by kernel_rfl) (by simp) ?_
        refine AllReadyH.cons rfl (fun K hK => ?_) AllReadyH.nil
        go_simp
        refine (HSUM.out _ HWB.out).mono ?_
        rintro e w1 ⟨rfl, b1⟩
        rw [← HE.out]
        have hS1 := ckS_later hS b1
        have HB1 : Hid (Below w.heap.size w w1) := HWB.out.trans (b1.mono HWB.out.size)
        clear b1
        refine hK.out _ _ hS1 (fun _ => ?_)
        clear hK K
        try simp only [Act.put]
        refine wpAnyH_take (i := 10) (v := .bool true) rfl (by kernel_rfl) (by kernel_rfl) (by kernel_rfl) (fun _ _ _ h => h) (Or.inl ⟨by kernel_rfl, ?_⟩) hS1 ?_
        · (intro w' hSw; go_simp)
        try simp only [Act.put]
        refine wpAnyH_take (i := 11) (v := .bool true) rfl (by kernel_rfl) (by kernel_rfl) (by kernel_rfl) (fun _ _ _ h => h) (Or.inl ⟨by kernel_rfl, ?_⟩) hS1 ?_
        · (intro w' hSw; go_simp)
        try simp only [Act.put]
        refine wpAnyH_done (by kernel_rfl) ?_ _
        clear hS hS1
        go_wp2_with fail
        exact bodyPost_ret (v := .tuple #[.nilIface, .bool false]) (by simp [results, Tryz.results87, go_sem]) rfl ⟨_, _, rfl, HB.out.trans (HB1.out.mono (Nat.le_of_lt hlt)), (fun h => by cases h), fun _ => ⟨left_later HL.out hlt HB1.out, .inr ⟨hjl, HNE.out⟩⟩⟩
      · go_enter Tryz.func87, Tryz.ntmps87
        go_wp2_with fail
        have HWB : Hid (Below w.heap.size w (w.alloc (.cells #[.string s, (.iface Tn yn)] 109)).drew) := ((Below.refl _ _).alloc (Nat.le_refl _) _).drew
        have hS : CkS c w.heap.size b o k cap' s (.iface Tn yn) (.iface T (.agg A)) (w.alloc (.cells #[.string s, (.iface Tn yn)] 109)).drew := ⟨(HWB.out.block _ hlt).trans hc, heap_alloc_new w _, (HWB.out.cell (p := ⟨b, o, none⟩) (World.block_lt_of_cell? w _ hcw)).trans hcw⟩
        refine wp_region_held_drew (S := CkS c w.heap.size b o k cap' s (.iface Tn yn) (.iface T (.agg A))) (by kernel_rfl) hS (fun _ => ?_)
        refine wpAnyH_take (i := 0) (v := .slice (some ⟨b, o, none⟩) (k + 1) cap') rfl (by kernel_rfl) (by kernel_rfl) (by kernel_rfl) (fun _ _ _ h => h) (Or.inl ⟨by kernel_rfl, ?_⟩) hS ?_
        · (intro w' hSw; have z0 := (cell_of_row w' _ 0 _ _ _ hSw.1).trans rfl; go_simp)
        try simp only [Act.put]
        refine wpAnyH_take (i := 1) (v := .int .i64 ((k + 1 : Nat) : Int)) rfl (by kernel_rfl) (by kernel_rfl) (by kernel_rfl) (fun _ _ _ h => h) (Or.inl ⟨by kernel_rfl, ?_⟩) hS ?_
        · (intro w' hSw; go_simp)
        try simp only [Act.put]
        refine wpAnyH_take (i := 2) (v := .bool false) rfl (by kernel_rfl) (by kernel_rfl) (by kernel_rfl) (fun _ _ _ h => h) (Or.inl ⟨by kernel_rfl, ?_⟩) hS ?_
        · (intro w' hSw; go_simp)
        try simp only [Act.put]
        refine wpAnyH_take (i := 3) (v := .bool false) rfl (by kernel_rfl) (by kernel_rfl) (by kernel_rfl) (fun _ _ _ h => h) (Or.inl ⟨by kernel_rfl, ?_⟩) hS ?_
        · (intro w' hSw; go_simp)
        try simp only [Act.put]
        refine wpAnyH_take (i := 4) (v := .slice (some ⟨b, o, none⟩) (k + 1) cap') rfl (by kernel_rfl) (by kernel_rfl) (by kernel_rfl) (fun _ _ _ h => h) (Or.inl ⟨by kernel_rfl, ?_⟩) hS ?_
        · (intro w' hSw; have z0 := (cell_of_row w' _ 0 _ _ _ hSw.1).trans rfl; go_simp)
        try simp only [Act.put]
        refine wpAnyH_take (i := 5) (v := .pointer (some ⟨b, o, none⟩)) rfl (by kernel_rfl) (by kernel_rfl) (by kernel_rfl) (fun _ _ _ h => h) (Or.inl ⟨by kernel_rfl, ?_⟩) hS ?_
        · (intro w' hSw; go_simp)
        try simp only [Act.put]
        refine wpAnyH_take (i := 6) (v := .iface T (.agg A)) rfl (by kernel_rfl) (by kernel_rfl) (by kernel_rfl) (fun _ _ _ h => h) (Or.inl ⟨by kernel_rfl, ?_⟩) hS ?_
        · (intro w' hSw; have z0 := hSw.2.2; go_simp)
        try simp only [Act.put]
        refine wpAnyH_take (i := 8) (v := .pointer (some ⟨w.heap.size, 0, none⟩)) rfl (by kernel_rfl) (by kernel_rfl) (by kernel_rfl) (fun _ _ _ h => h) (Or.inl ⟨by kernel_rfl, ?_⟩) hS ?_
        · (intro w' hSw; go_simp)
        try simp only [Act.put]
        refine wpAnyH_take (i := 9) (v := .string s) rfl (by kernel_rfl) (by kernel_rfl) (by kernel_rfl) (fun _ _ _ h => h) (Or.inl ⟨by kernel_rfl, ?_⟩) hS ?_
        · (intro w' hSw; have z0 := (cell_of_row w' _ 0 _ _ _ hSw.2.1).trans rfl; go_simp)
        try simp only [Act.put]
        refine wpAnyH_ready (rs := [7]) (by kernel_rfl) (by simp) ?_
        refine AllReadyH.cons rfl (fun K hK => ?_) AllReadyH.nil
        go_simp
        refine (HSUM.out _ HWB.out).mono ?_
        rintro e w1 ⟨rfl, b1⟩
        rw [← HE.out]
        have hS1 := ckS_later hS b1
        have HB1 : Hid (Below w.heap.size w w1) := HWB.out.trans (b1.mono HWB.out.size)
        clear b1
        refine hK.out _ _ hS1 (fun _ => ?_)
        clear hK K
        try simp only [Act.put]
        refine wpAnyH_take (i := 10) (v := .bool true) rfl (by kernel_rfl) (by kernel_rfl) (by kernel_rfl) (fun _ _ _ h => h) (Or.inl ⟨by kernel_rfl, ?_⟩) hS1 ?_
        · (intro w' hSw; go_simp)
        try simp only [Act.put]
        refine wpAnyH_take (i := 11) (v := .bool true) rfl (by kernel_rfl) (by kernel_rfl) (by kernel_rfl) (fun _ _ _ h => h) (Or.inl ⟨by kernel_rfl, ?_⟩) hS1 ?_
        · (intro w' hSw; go_simp)
        try simp only [Act.put]
        refine wpAnyH_done (by kernel_rfl) ?_ _
        clear hS hS1
        go_wp2_with fail
        exact bodyPost_ret (v := .tuple #[.nilIface, .bool false]) (by simp [results, Tryz.results87, go_sem]) rfl ⟨_, _, rfl, HB.out.trans (HB1.out.mono (Nat.le_of_lt hlt)), (fun h => by cases h), fun _ => ⟨left_later HL.out hlt HB1.out, .inr ⟨hjl, HNE.out⟩⟩⟩
end
end Go.Proofs.YtbmohenjphmlgabGreat

/- The way that a proof goes (of the program's check): what holds at each node. -/
namespace Go.Proofs.YtbmohenjphmlgabGreat
open Go.RowKit
set_option maxRecDepth 100000

def bl (p : List ByteArray) : List (List UInt8) := p.map fun s => s.data.toList

theorem bl_len (p : List ByteArray) : (bl p).length = p.length := by simp [bl]
theorem bl_at (p : List ByteArray) (i : Nat) (h : i < p.length) : (bl p)[i]'(by rw [bl_len]; exact h) = p[i].data.toList := by simp [bl]

/-- What holds at a node on the way: R is what all of the proof tells. -/
def VJ (W : World) (a : Option Addr) (p : List ByteArray) (R : Option Tr.Way) (w : World) (v : Value) (d : ByteArray) : Prop :=
  Below W.heap.size W w ∧ ∃ j t m lo B, 0 < j ∧ j ≤ p.length ∧ B ≤ W.heap.size ∧ RN lo B W m v t ∧ Small t ∧ LeftAt w W.heap.size a p.length j ∧ (∀ c ∈ d.data.toList, c.toNat < 16) ∧ R = Tr.fin (bl p) j (Tr.goes t d.data.toList false)

/-- What holds at the end of the way. -/
def VQ (W : World) (a : Option Addr) (p : List ByteArray) (R : Option Tr.Way) (x : ByteArray) (ok : Bool) (w : World) : Prop :=
  Below W.heap.size W w ∧ ∃ j, j ≤ p.length ∧ LeftAt w W.heap.size a p.length j ∧ (ok = true → Tr.verEnd R = if p.length ≤ j then (x.data.toList, !x.data.toList.isEmpty, 0) else ([], false, 6)) ∧ (ok = false → Tr.verEnd R = ([], false, 6))

theorem sum_eight {t : Itm} (h : Tr.isSum t = true) : t.bytes.length = 8 := by
  unfold Tr.isSum at h
  simp at h
  exact h.2

section
variable {W : World} {a : Option Addr} {vs : List Value} {p : List ByteArray} {L : Nat} {g : Option Nat} (hrd : NRd W.heap.size W a vs) (hno : NodesOf L g W.heap.size W vs p) (hsz : ∀ s ∈ p, s.size ≤ 1000)
include hrd hno hsz

/-- A reference by a sum is followed in a proof. -/
theorem follow_check {w : World} {v n : Value} {k : Nat} {l : Bool} {s0 : ByteArray} {a0 : Option Addr} {n0 cap0 : Nat} {R : Option Tr.Way} {s rest : ByteArray} {j : Nat} {br : Bool} (hnd : Nd v k l s0 a0 n0 cap0) (hn : IsNode n) (hs : s.size = 8) (hbr : br = decide (k = 2)) (hB : Below W.heap.size W w) (hj0 : 0 < j) (hj : j ≤ p.length) (hl : LeftAt w W.heap.size a p.length j)
    (hd : ∀ c ∈ rest.data.toList, c.toNat < 16) (hR : R = Tr.fin (bl p) j (some ⟨rest.data.toList, br, [], false, s.data.toList⟩)) :
    Calls Tryz.prog 100 #[v, .agg #[.string s, n], .func (.func 87) #[] #[.pointer (some ⟨W.heap.size, 0, none⟩)]] w fun e w' => ∃ v' ok, e = .returned (.tuple #[v', .bool ok]) ∧ (ok = true → VJ W a p R w' v' rest) ∧ (ok = false → VQ W a p R ⟨#[]⟩ false w') := by
  have hsl : s.data.toList.length = 8 := by rw [ba_len]; exact hs
  have hne : s.data.toList ≠ [] := fun e => by rw [e] at hsl; simp at hsl
  refine follow_sum w enters_check hn (by omega) (fun v' ok w' => (ok = true → VJ W a p R w' v' rest) ∧ (ok = false → VQ W a p R ⟨#[]⟩ false w')) ?_
  intro w1 b1
  have hB1 : Below W.heap.size W w1 := hB.trans (b1.mono hB.size)
  refine (check1_any hrd hno hsz s n hn w1 hB1 j hj (left_later hl (left_lt hl) b1)).mono ?_
  rintro e w2 ⟨v2, ok, rfl, hB2, g1, g2⟩
  refine ⟨v2, ok, rfl, fun h => ?_, fun h => ?_⟩
  · subst h
    obtain ⟨hl2, hw⟩ := g2 rfl
    refine ⟨fun h => (by cases h), fun _ => ⟨hB2, j, hj, hl2, (fun h => by cases h), fun _ => ?_⟩⟩
    rw [hR]
    rcases hw with rfl | ⟨hjl, hw⟩
    · rw [Tr.fin_out (by rw [bl_len]; exact Nat.le_refl _)]
      exact Tr.verEnd_need hne
    · rw [Tr.fin_next _ (by rw [bl_len]; exact hjl), bl_at _ _ hjl, Tr.vstep_b hw]
      rfl
  · subst h
    obtain ⟨hjl, hv2, hsum, hl2⟩ := g1 rfl
    obtain ⟨v', t', lo', B', m', e1, e2, e3, _, e4⟩ := hno.2 j hjl
    rw [hv2] at e1
    cases e1
    obtain ⟨hsm, henc, hsd⟩ := reads_small (hsz _ (List.getElem_mem hjl)) e2
    obtain ⟨k', l', s', a', n', cap', hnd', hrep', _, hk'⟩ := rn_nd hsm.pure e4
    obtain ⟨m', rfl⟩ : ∃ m, m' = m + 1 := by
      cases m' with
      | zero => exact e4.elim
      | succ m => exact ⟨m, rfl⟩
    refine (mayFollow_any w2 hnd hnd' hsm (rep_wider (Nat.le_trans e3 hB2.size) _ _ _ (rep_frame (hB2.mono e3) _ _ _ hrep'))).mono ?_
    rintro e w3 ⟨rfl, b3⟩
    have hB3 : Below W.heap.size W w3 := hB2.trans (b3.mono hB2.size)
    have hl3 := left_later hl2 (left_lt hl2) b3
    have hfin : R = Tr.fin (bl p) (j + 1) (if (Itm.enc t').length < 8 then none else Tr.goes t' rest.data.toList br) := by
      rw [hR, Tr.fin_next _ (by rw [bl_len]; exact hjl), bl_at _ _ hjl, Tr.vstep_reads, e2]
      congr 1
      rw [henc]
      by_cases h8 : (Itm.enc t').length < 8
      · rw [if_pos h8, if_pos]
        simp [hj0, h8]
      · rw [if_neg h8, if_neg]
        rw [← henc]
        simp only [Bool.or_eq_true, decide_eq_true_eq, bne_iff_ne, ne_eq, Bool.and_eq_true]
        rintro ((h | h) | h)
        · exact hne h
        · exact h hsum
        · rw [henc] at h; exact h8 h.2
    refine ⟨_, rfl, fun h => ?_, fun h => ?_⟩
    · unfold mayB at h
      simp only [Bool.and_eq_true, Bool.not_eq_true', decide_eq_false_iff_not, Bool.or_eq_true, decide_eq_true_eq] at h
      refine ⟨hB3, j + 1, t', _, lo', B', by omega, by omega, e3, e4, hsm, hl3, hd, ?_⟩
      rw [hfin, if_neg h.1]
      congr 1
      cases br with
      | false => rfl
      | true =>
        have h2 : k = 2 := of_decide_eq_true hbr.symm
        rcases h.2 with h | h
        · exact absurd h2 h
        · exact Tr.goes_true _ (hk'.1 h)
    · refine ⟨hB3, j + 1, by omega, hl3, (fun h => by cases h), fun _ => ?_⟩
      rw [hfin]
      split
      · rfl
      · rename_i h8
        unfold mayB at h
        rw [decide_eq_false h8] at h
        simp only [Bool.not_false, Bool.true_and, Bool.or_eq_false_iff, decide_eq_false_iff_not, Decidable.not_not] at h
        have hb : Tr.isBranch t' = false := by
          cases hb : Tr.isBranch t' with
          | false => rfl
          | true => exact absurd (hk'.2 hb) h.2
        rw [hbr, decide_eq_true h.1, Tr.goes_stop _ hb]
        rfl

theorem way_verify (R : Option Tr.Way) (w : World) (v : Value) (d : ByteArray) (h : VJ W a p R w v d) : Way 87 ⟨W.heap.size, 0, none⟩ (VJ W a p R) (VQ W a p R) w v d := by
  obtain ⟨hB, j, t, m, lo, B, hj0, hj, hBW, hrn, hsm, hl, hd, hR⟩ := h
  have ends : ∀ (x : ByteArray) (y : Tr.Way), Tr.goes t d.data.toList false = some y → y.need = [] → y.value = x.data.toList → y.found = !x.data.toList.isEmpty → ∀ w', Below w.heap.size w w' → VQ W a p R x true w' := by
    intro x y he hn hv hf w' b
    refine ⟨hB.trans (b.mono hB.size), j, hj, left_later hl (left_lt hl) b, fun _ => ?_, fun h => by cases h⟩
    rw [hR, he, Tr.fin_end hn, hv, hf, bl_len]
  cases m with
  | zero => exact hrn.elim
  | succ m =>
    have nb : t.items.length = 2 → Tr.isBranch t = false := fun h => by unfold Tr.isBranch; rw [h]; simp
    have ne : t.list = true → Tr.isEmpty t = false := fun h => by unfold Tr.isEmpty; rw [h]; rfl
    rcases hrn with ⟨he, rfl⟩ | ⟨a1, cap, q, x, h0, h1, h2, h3, h4, h5, rfl⟩ | ⟨a1, cap, q, s, h0, h1, h2, h3, h4, h5, h6, rfl⟩ | ⟨a1, cap, cs, x, h1, h2, h3, h4, rfl, h6⟩
    · exact ⟨_, _, _, _, _, steps_empty d, .inl rfl, fun _ => ends _ _ (Tr.goes_empty _ he) rfl rfl rfl, fun h => by cases h⟩
    · refine ⟨_, _, _, _, _, steps_leaf a1 cap q x d, .inl rfl, fun _ => ?_, fun h => by cases h⟩
      have hg := Tr.goes_leaf d.data.toList q.data.toList (nb h1) (ne h0) h3
      by_cases hq : d = q
      · rw [if_pos hq]
        rw [if_pos (by rw [hq])] at hg
        refine ends _ _ hg rfl h5.symm ?_
        rw [h5]
        unfold Tr.isValue at h4
        simp only [Bool.and_eq_true, decide_eq_true_eq] at h4
        cases hb : (Tr.kid t 1).bytes with
        | nil => rw [hb] at h4; simp at h4
        | cons c r => rfl
      · rw [if_neg hq]
        rw [if_neg (fun e => hq (by cases d; cases q; simp_all))] at hg
        exact ends _ _ hg rfl rfl rfl
    · have hs8 : s.size = 8 := by rw [← ba_len, h6]; exact sum_eight h5
      refine ⟨_, _, _, _, _, steps_ext a1 cap q s d _ (.inl rfl), .inl rfl, fun hn => ?_, fun hp => ?_⟩
      · refine ends _ _ (Tr.goes_miss d.data.toList q.data.toList (nb h1) (ne h0) h3 ?_) rfl rfl rfl
        by_cases hlt : d.data.toList.length < q.data.toList.length
        · exact .inl hlt
        · right
          intro e
          have : pre q d = true := by
            unfold pre
            rw [List.isPrefixOf_iff_prefix, ← e]
            exact List.take_prefix _ _
          rw [hn] at this
          cases this
      · have hcut := cutP_list hp
        have hle := pre_size hp
        have hpre : q.data.toList <+: d.data.toList := List.isPrefixOf_iff_prefix.1 hp
        refine ⟨?_, fun w' b => ?_⟩
        · rw [← ba_len, hcut, ← ba_len d, List.length_drop, ba_len]; omega
        · refine follow_check hrd hno hsz (nd_ext a1 cap q s .nilIface) (.inl rfl) hs8 (br := true) rfl (hB.trans (b.mono hB.size)) hj0 hj (left_later hl (left_lt hl) b) ?_ ?_
          · rw [hcut]; exact fun c hc => hd c (List.mem_of_mem_drop hc)
          · rw [hR]
            congr 1
            rw [Tr.goes_hit d.data.toList q.data.toList (nb h1) (ne h0) h1 h3 (by rw [ba_len, ba_len]; omega) (List.prefix_iff_eq_take.1 hpre).symm]
            unfold Tr.refers Tr.refersOf
            rw [if_pos h5, hcut, ba_len, h6]
    · cases hdl : d.data.toList with
      | nil =>
        have : d = ⟨#[]⟩ := by cases d; simp_all
        subst this
        refine ⟨_, _, _, _, _, steps_end a1 cap cs x h3, .inl rfl, fun _ => ends _ _ (Tr.goes_end false h1) rfl h4.symm (by rw [h4]; rfl), fun h => by cases h⟩
      | cons c r =>
        have hc : c.toNat < 16 := hd c (by rw [hdl]; exact List.mem_cons_self ..)
        obtain ⟨s, vd, g1, g2, g3⟩ := h6 c.toNat hc
        have hkid : Small (Tr.kid t c.toNat) := kid_small hsm (by rw [Tr.branch_len h1]; omega)
        have hdown := Tr.goes_down c r false h1 (by omega)
        have hdr : ∀ y ∈ (⟨r.toArray⟩ : ByteArray).data.toList, y.toNat < 16 := fun y hy => hd y (by rw [hdl]; exact List.mem_cons_of_mem _ hy)
        have hsz' : (⟨r.toArray⟩ : ByteArray).size < d.size := by
          show r.toArray.size < d.size
          rw [← ba_len d, hdl, List.size_toArray, List.length_cons]; omega
        rw [hdl, hdown] at hR
        unfold Tr.refers Tr.refersOf at hR
        rcases g3 with ⟨k1, k2, rfl⟩ | ⟨k1, rfl, k3, k4⟩
        · rw [if_pos k1] at hR
          refine ⟨_, _, _, _, _, steps_branch a1 cap cs x d h3 c r hdl hc _ _ (.inl rfl) g1 g2, .inl rfl, (fun h => by cases h), fun _ => ⟨hsz', fun w' b => ?_⟩⟩
          exact follow_check hrd hno hsz (nd_branch a1 cap cs x) (.inl rfl) (by rw [← ba_len, k2]; exact sum_eight k1) (br := false) rfl (hB.trans (b.mono hB.size)) hj0 hj (left_later hl (left_lt hl) b) hdr (by rw [hR, k2])
        · rw [if_neg (by rw [k1]; decide)] at hR
          have hin := rn_node hkid.pure k3
          refine ⟨_, _, _, _, _, steps_branch a1 cap cs x d h3 c r hdl hc _ _ hin g1 g2, hin, (fun h => by cases h), fun _ => ⟨hsz', fun w' b => ?_⟩⟩
          refine (follow_own w' hin).mono ?_
          rintro e w2 ⟨rfl, b2⟩
          have hB' : Below W.heap.size W w' := hB.trans (b.mono hB.size)
          have hl' := left_later hl (left_lt hl) b
          exact ⟨_, _, rfl, fun _ => ⟨hB'.trans (b2.mono hB'.size), j, _, m, lo, B, hj0, hj, hBW, k3, hkid, left_later hl' (left_lt hl') b2, hdr, hR⟩, fun h => by cases h⟩
end
end Go.Proofs.YtbmohenjphmlgabGreat
