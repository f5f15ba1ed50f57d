/- Part 11 of a proof: what the last text needs. -/
import Derived.Test.YtbmohenjphmlgaaGreatPart10
import Derived.Test.YtbmohenjphmlgaaGreatPart9
import Derived.Test.YtbmohenjphmlgaaGreatPart6
/- The way that a proof goes (of the program's check): what holds at each node. -/
namespace Go.Proofs.YtbmohenjphmlgaaGreat
open Go.RowKit
set_option maxRecDepth 100000

def bl (p : List ByteArray) : List (List UInt8) := p.map fun s => s.data.toList

theorem bl_len (p : List ByteArray) : (bl p).length = p.length := by simp [bl]
theorem bl_at (p : List ByteArray) (i : Nat) (h : i < p.length) : (bl p)[i]'(by rw [bl_len]; exact h) = p[i].data.toList := by simp [bl]

/-- What holds at a node on the way: R is what all of the proof tells. -/
def VJ (W : World) (a : Option Addr) (p : List ByteArray) (R : Option Tr.Way) (w : World) (v : Value) (d : ByteArray) : Prop :=
  Below W.heap.size W w ∧ ∃ j t m lo B, 0 < j ∧ j ≤ p.length ∧ B ≤ W.heap.size ∧ RN lo B W m v t ∧ Small t ∧ LeftAt w W.heap.size a p.length j ∧ (∀ c ∈ d.data.toList, c.toNat < 16) ∧ R = Tr.fin (bl p) j (Tr.goes t d.data.toList false)

/-- What holds at the end of the way. -/
def VQ (W : World) (a : Option Addr) (p : List ByteArray) (R : Option Tr.Way) (x : ByteArray) (ok : Bool) (w : World) : Prop :=
  Below W.heap.size W w ∧ ∃ j, j ≤ p.length ∧ LeftAt w W.heap.size a p.length j ∧ (ok = true → Tr.verEnd R = if p.length ≤ j then (x.data.toList, !x.data.toList.isEmpty, 0) else ([], false, 6)) ∧ (ok = false → Tr.verEnd R = ([], false, 6))

theorem sum_eight {t : Itm} (h : Tr.isSum t = true) : t.bytes.length = 8 := by
  unfold Tr.isSum at h
  simp at h
  exact h.2

section
variable {W : World} {a : Option Addr} {vs : List Value} {p : List ByteArray} {L : Nat} {g : Option Nat} (hrd : NRd W.heap.size W a vs) (hno : NodesOf L g W.heap.size W vs p) (hsz : ∀ s ∈ p, s.size ≤ 1000)
include hrd hno hsz

/-- A reference by a sum is followed in a proof. -/
theorem follow_check {w : World} {v n : Value} {k : Nat} {l : Bool} {s0 : ByteArray} {a0 : Option Addr} {n0 cap0 : Nat} {R : Option Tr.Way} {s rest : ByteArray} {j : Nat} {br : Bool} (hnd : Nd v k l s0 a0 n0 cap0) (hn : IsNode n) (hs : s.size = 8) (hbr : br = decide (k = 2)) (hB : Below W.heap.size W w) (hj0 : 0 < j) (hj : j ≤ p.length) (hl : LeftAt w W.heap.size a p.length j)
    (hd : ∀ c ∈ rest.data.toList, c.toNat < 16) (hR : R = Tr.fin (bl p) j (some ⟨rest.data.toList, br, [], false, s.data.toList⟩)) :
    Calls Tryz.prog 122 #[v, .agg #[.string s, n], .func (.func 125) #[] #[.pointer (some ⟨W.heap.size, 0, none⟩)]] w fun e w' => ∃ v' ok, e = .returned (.tuple #[v', .bool ok]) ∧ (ok = true → VJ W a p R w' v' rest) ∧ (ok = false → VQ W a p R ⟨#[]⟩ false w') := by
  have hsl : s.data.toList.length = 8 := by rw [ba_len]; exact hs
  have hne : s.data.toList ≠ [] := fun e => by rw [e] at hsl; simp at hsl
  refine follow_sum w enters_check hn (by omega) (fun v' ok w' => (ok = true → VJ W a p R w' v' rest) ∧ (ok = false → VQ W a p R ⟨#[]⟩ false w')) ?_
  intro w1 b1
  have hB1 : Below W.heap.size W w1 := hB.trans (b1.mono hB.size)
  refine (check1_any hrd hno hsz s n hn w1 hB1 j hj (left_later hl (left_lt hl) b1)).mono ?_
  rintro e w2 ⟨v2, ok, rfl, hB2, g1, g2⟩
  refine ⟨v2, ok, rfl, fun h => ?_, fun h => ?_⟩
  · subst h
    obtain ⟨hl2, hw⟩ := g2 rfl
    refine ⟨fun h => (by cases h), fun _ => ⟨hB2, j, hj, hl2, (fun h => by cases h), fun _ => ?_⟩⟩
    rw [hR]
    rcases hw with rfl | ⟨hjl, hw⟩
    · rw [Tr.fin_out (by rw [bl_len]; exact Nat.le_refl _)]
      exact Tr.verEnd_need hne
    · rw [Tr.fin_next _ (by rw [bl_len]; exact hjl), bl_at _ _ hjl, Tr.vstep_b hw]
      rfl
  · subst h
    obtain ⟨hjl, hv2, hsum, hl2⟩ := g1 rfl
    obtain ⟨v', t', lo', B', m', e1, e2, e3, _, e4⟩ := hno.2 j hjl
    rw [hv2] at e1
    cases e1
    obtain ⟨hsm, henc, hsd⟩ := reads_small (hsz _ (List.getElem_mem hjl)) e2
    obtain ⟨k', l', s', a', n', cap', hnd', hrep', _, hk'⟩ := rn_nd hsm.pure e4
    obtain ⟨m', rfl⟩ : ∃ m, m' = m + 1 := by
      cases m' with
      | zero => exact e4.elim
      | succ m => exact ⟨m, rfl⟩
    refine (mayFollow_any w2 hnd hnd' hsm (rep_wider (Nat.le_trans e3 hB2.size) _ _ _ (rep_frame (hB2.mono e3) _ _ _ hrep'))).mono ?_
    rintro e w3 ⟨rfl, b3⟩
    have hB3 : Below W.heap.size W w3 := hB2.trans (b3.mono hB2.size)
    have hl3 := left_later hl2 (left_lt hl2) b3
    have hfin : R = Tr.fin (bl p) (j + 1) (if (Itm.enc t').length < 8 then none else Tr.goes t' rest.data.toList br) := by
      rw [hR, Tr.fin_next _ (by rw [bl_len]; exact hjl), bl_at _ _ hjl, Tr.vstep_reads, e2]
      congr 1
      rw [henc]
      by_cases h8 : (Itm.enc t').length < 8
      · rw [if_pos h8, if_pos]
        simp [hj0, h8]
      · rw [if_neg h8, if_neg]
        rw [← henc]
        simp only [Bool.or_eq_true, decide_eq_true_eq, bne_iff_ne, ne_eq, Bool.and_eq_true]
        rintro ((h | h) | h)
        · exact hne h
        · exact h hsum
        · rw [henc] at h; exact h8 h.2
    refine ⟨_, rfl, fun h => ?_, fun h => ?_⟩
    · unfold mayB at h
      simp only [Bool.and_eq_true, Bool.not_eq_true', decide_eq_false_iff_not, Bool.or_eq_true, decide_eq_true_eq] at h
      refine ⟨hB3, j + 1, t', _, lo', B', by omega, by omega, e3, e4, hsm, hl3, hd, ?_⟩
      rw [hfin, if_neg h.1]
      congr 1
      cases br with
      | false => rfl
      | true =>
        have h2 : k = 2 := of_decide_eq_true hbr.symm
        rcases h.2 with h | h
        · exact absurd h2 h
        · exact Tr.goes_true _ (hk'.1 h)
    · refine ⟨hB3, j + 1, by omega, hl3, (fun h => by cases h), fun _ => ?_⟩
      rw [hfin]
      split
      · rfl
      · rename_i h8
        unfold mayB at h
        rw [decide_eq_false h8] at h
        simp only [Bool.not_false, Bool.true_and, Bool.or_eq_false_iff, decide_eq_false_iff_not, Decidable.not_not] at h
        have hb : Tr.isBranch t' = false := by
          cases hb : Tr.isBranch t' with
          | false => rfl
          | true => exact absurd (hk'.2 hb) h.2
        rw [hbr, decide_eq_true h.1, Tr.goes_stop _ hb]
        rfl

theorem way_verify (R : Option Tr.Way) (w : World) (v : Value) (d : ByteArray) (h : VJ W a p R w v d) : Way 125 ⟨W.heap.size, 0, none⟩ (VJ W a p R) (VQ W a p R) w v d := by
  obtain ⟨hB, j, t, m, lo, B, hj0, hj, hBW, hrn, hsm, hl, hd, hR⟩ := h
  have ends : ∀ (x : ByteArray) (y : Tr.Way), Tr.goes t d.data.toList false = some y → y.need = [] → y.value = x.data.toList → y.found = !x.data.toList.isEmpty → ∀ w', Below w.heap.size w w' → VQ W a p R x true w' := by
    intro x y he hn hv hf w' b
    refine ⟨hB.trans (b.mono hB.size), j, hj, left_later hl (left_lt hl) b, fun _ => ?_, fun h => by cases h⟩
    rw [hR, he, Tr.fin_end hn, hv, hf, bl_len]
  cases m with
  | zero => exact hrn.elim
  | succ m =>
    have nb : t.items.length = 2 → Tr.isBranch t = false := fun h => by unfold Tr.isBranch; rw [h]; simp
    have ne : t.list = true → Tr.isEmpty t = false := fun h => by unfold Tr.isEmpty; rw [h]; rfl
    rcases hrn with ⟨he, rfl⟩ | ⟨a1, cap, q, x, h0, h1, h2, h3, h4, h5, rfl⟩ | ⟨a1, cap, q, s, h0, h1, h2, h3, h4, h5, h6, rfl⟩ | ⟨a1, cap, cs, x, h1, h2, h3, h4, rfl, h6⟩
    · exact ⟨_, _, _, _, _, steps_empty d, .inl rfl, fun _ => ends _ _ (Tr.goes_empty _ he) rfl rfl rfl, fun h => by cases h⟩
    · refine ⟨_, _, _, _, _, steps_leaf a1 cap q x d, .inl rfl, fun _ => ?_, fun h => by cases h⟩
      have hg := Tr.goes_leaf d.data.toList q.data.toList (nb h1) (ne h0) h3
      by_cases hq : d = q
      · rw [if_pos hq]
        rw [if_pos (by rw [hq])] at hg
        refine ends _ _ hg rfl h5.symm ?_
        rw [h5]
        unfold Tr.isValue at h4
        simp only [Bool.and_eq_true, decide_eq_true_eq] at h4
        cases hb : (Tr.kid t 1).bytes with
        | nil => rw [hb] at h4; simp at h4
        | cons c r => rfl
      · rw [if_neg hq]
        rw [if_neg (fun e => hq (by cases d; cases q; simp_all))] at hg
        exact ends _ _ hg rfl rfl rfl
    · have hs8 : s.size = 8 := by rw [← ba_len, h6]; exact sum_eight h5
      refine ⟨_, _, _, _, _, steps_ext a1 cap q s d _ (.inl rfl), .inl rfl, fun hn => ?_, fun hp => ?_⟩
      · refine ends _ _ (Tr.goes_miss d.data.toList q.data.toList (nb h1) (ne h0) h3 ?_) rfl rfl rfl
        by_cases hlt : d.data.toList.length < q.data.toList.length
        · exact .inl hlt
        · right
          intro e
          have : pre q d = true := by
            unfold pre
            rw [List.isPrefixOf_iff_prefix, ← e]
            exact List.take_prefix _ _
          rw [hn] at this
          cases this
      · have hcut := cutP_list hp
        have hle := pre_size hp
        have hpre : q.data.toList <+: d.data.toList := List.isPrefixOf_iff_prefix.1 hp
        refine ⟨?_, fun w' b => ?_⟩
        · rw [← ba_len, hcut, ← ba_len d, List.length_drop, ba_len]; omega
        · refine follow_check hrd hno hsz (nd_ext a1 cap q s .nilIface) (.inl rfl) hs8 (br := true) rfl (hB.trans (b.mono hB.size)) hj0 hj (left_later hl (left_lt hl) b) ?_ ?_
          · rw [hcut]; exact fun c hc => hd c (List.mem_of_mem_drop hc)
          · rw [hR]
            congr 1
            rw [Tr.goes_hit d.data.toList q.data.toList (nb h1) (ne h0) h1 h3 (by rw [ba_len, ba_len]; omega) (List.prefix_iff_eq_take.1 hpre).symm]
            unfold Tr.refers Tr.refersOf
            rw [if_pos h5, hcut, ba_len, h6]
    · cases hdl : d.data.toList with
      | nil =>
        have : d = ⟨#[]⟩ := by cases d; simp_all
        subst this
        refine ⟨_, _, _, _, _, steps_end a1 cap cs x h3, .inl rfl, fun _ => ends _ _ (Tr.goes_end false h1) rfl h4.symm (by rw [h4]; rfl), fun h => by cases h⟩
      | cons c r =>
        have hc : c.toNat < 16 := hd c (by rw [hdl]; exact List.mem_cons_self ..)
        obtain ⟨s, vd, g1, g2, g3⟩ := h6 c.toNat hc
        have hkid : Small (Tr.kid t c.toNat) := kid_small hsm (by rw [Tr.branch_len h1]; omega)
        have hdown := Tr.goes_down c r false h1 (by omega)
        have hdr : ∀ y ∈ (⟨r.toArray⟩ : ByteArray).data.toList, y.toNat < 16 := fun y hy => hd y (by rw [hdl]; exact List.mem_cons_of_mem _ hy)
        have hsz' : (⟨r.toArray⟩ : ByteArray).size < d.size := by
          show r.toArray.size < d.size
          rw [← ba_len d, hdl, List.size_toArray, List.length_cons]; omega
        rw [hdl, hdown] at hR
        unfold Tr.refers Tr.refersOf at hR
        rcases g3 with ⟨k1, k2, rfl⟩ | ⟨k1, rfl, k3, k4⟩
        · rw [if_pos k1] at hR
          refine ⟨_, _, _, _, _, steps_branch a1 cap cs x d h3 c r hdl hc _ _ (.inl rfl) g1 g2, .inl rfl, (fun h => by cases h), fun _ => ⟨hsz', fun w' b => ?_⟩⟩
          exact follow_check hrd hno hsz (nd_branch a1 cap cs x) (.inl rfl) (by rw [← ba_len, k2]; exact sum_eight k1) (br := false) rfl (hB.trans (b.mono hB.size)) hj0 hj (left_later hl (left_lt hl) b) hdr (by rw [hR, k2])
        · rw [if_neg (by rw [k1]; decide)] at hR
          have hin := rn_node hkid.pure k3
          refine ⟨_, _, _, _, _, steps_branch a1 cap cs x d h3 c r hdl hc _ _ hin g1 g2, hin, (fun h => by cases h), fun _ => ⟨hsz', fun w' b => ?_⟩⟩
          refine (follow_own w' hin).mono ?_
          rintro e w2 ⟨rfl, b2⟩
          have hB' : Below W.heap.size W w' := hB.trans (b.mono hB.size)
          have hl' := left_later hl (left_lt hl) b
          exact ⟨_, _, rfl, fun _ => ⟨hB'.trans (b2.mono hB'.size), j, _, m, lo, B, hj0, hj, hBW, k3, hkid, left_later hl' (left_lt hl') b2, hdr, hR⟩, fun h => by cases h⟩
end
end Go.Proofs.YtbmohenjphmlgaaGreat

/- The walks of Root, Prove, Verify that are refused (of the program). -/
namespace Go.Proofs.YtbmohenjphmlgaaGreat
open Go.RowKit
set_option maxRecDepth 100000

theorem root_fault {a : Option Addr} {n cap : Nat} {w : World} {N : Nat} (hN : N ≠ 0) (h : Calls Tryz.prog 47 #[.slice a n cap, .string ⟨#[]⟩] w fun e w' => e = .returned (.int .i64 N) ∧ Below w.heap.size w w') :
    Calls Tryz.prog 10 #[.slice a n cap] w fun e w' => e = .returned (.tuple #[.string ⟨#[]⟩, .int .i64 N]) ∧ Below w.heap.size w w' := by
  have H1 : Calls Tryz.prog 26 #[.slice a n cap] w fun e w' => e = .returned (.tuple #[.string ⟨#[]⟩, .int .i64 N]) ∧ Below w.heap.size w w' := by
    have H := hid h
    have hN' : ¬ (N : Int) = 0 := by omega
    clear h hN
    go_enter Tryz.func26, Tryz.ntmps26
    go_wp2_with fail
    refine H.out.mono ?_
    rintro e w1 ⟨rfl, b1⟩
    have HB := hid b1
    clear b1
    go_wp2_with fail
    go_ret2
    exact ⟨rfl, HB.out⟩
  have H := hid H1
  clear h H1
  go_enter Tryz.func10, Tryz.ntmps10
  go_wp2_with fail
  refine H.out.mono ?_
  rintro e w1 ⟨rfl, b1⟩
  have HB := hid b1
  clear b1
  go_wp2_with fail
  go_ret2
  exact ⟨rfl, HB.out⟩

theorem check_fault {root key : ByteArray} {v : Value} {w : World} {N : Nat} (hN : N ≠ 0) (h : Calls Tryz.prog 123 #[.string root, .string key, v] w fun e w' => e = .returned (.int .i64 N) ∧ w' = w) :
    Calls Tryz.prog 98 #[.string root, .string key, v] w fun e w' => e = .returned (.tuple #[.slice none 0 0, .string ⟨#[]⟩, .int .i64 N]) ∧ Below w.heap.size w w' := by
  have H := hid h
  have hN' : ¬ (N : Int) = 0 := by omega
  clear h hN
  go_enter Tryz.func98, Tryz.ntmps98
  go_wp2_with fail
  refine H.out.mono ?_
  rintro e w1 ⟨rfl, hw⟩
  obtain rfl := hw.symm
  go_wp2_with fail
  refine bodyPost_ret (v := .tuple #[.slice none 0 0, .string ⟨#[]⟩, .int .i64 N]) (by simp [results, Tryz.results98, go_sem]) rfl ?_
  exact ⟨rfl, Below.refl _ _⟩

end Go.Proofs.YtbmohenjphmlgaaGreat

/- The walks of check and Verify (of the program): Verify answers as the document says. -/
namespace Go.Proofs.YtbmohenjphmlgaaGreat
open Go.RowKit
set_option maxRecDepth 100000

/-- What check tells. -/
def CkOk (root key : ByteArray) (p : List ByteArray) (w : World) (e : Ending) (w' : World) : Prop :=
  ∃ (r : Value) (s : ByteArray) (N : Nat), e = .returned (.tuple #[r, .string s, .int .i64 (N : Int)]) ∧ Below w.heap.size w w' ∧ Tr.verify root.data.toList key.data.toList (bl p) = (s.data.toList, !s.data.toList.isEmpty, N) ∧
    (N ≠ 0 → r = .slice none 0 0) ∧ (N = 0 → ∃ vs, NOwn w' w.heap.size r vs ∧ NodesOf w.heap.size r.ownBlock w'.heap.size w' vs p)

theorem pfault_verify {root key : ByteArray} {p : List ByteArray} (h : pfault root key p ≠ 0) : Tr.verify root.data.toList key.data.toList (bl p) = ([], false, pfault root key p) := by
  unfold Tr.verify pfault at *
  rw [ba_len, ba_len, bl_len]
  by_cases h1 : root.size ≠ 8
  · rw [if_pos h1, if_pos h1]
  · rw [if_neg h1] at h
    rw [if_neg h1, if_neg h1]
    by_cases h2 : 6 < key.size
    · rw [if_pos h2, if_pos h2]
    · rw [if_neg h2] at h
      rw [if_neg h2, if_neg h2]
      by_cases h3 : 20 < p.length
      · rw [if_pos (.inl h3), if_pos h3]
      · rw [if_neg h3] at h
        rw [if_neg h3]
        by_cases h4 : ∃ s ∈ p, 1000 < s.size
        · rw [if_pos h4, if_pos]
          right
          obtain ⟨s, hs, hl⟩ := h4
          exact ⟨s.data.toList, List.mem_map.2 ⟨s, hs, rfl⟩, by rw [ba_len]; exact hl⟩
        · rw [if_neg h4] at h
          exact absurd rfl h

theorem pfault_none {root key : ByteArray} {p : List ByteArray} (h : pfault root key p = 0) : root.size = 8 ∧ key.size ≤ 6 ∧ p.length ≤ 20 ∧ ∀ s ∈ p, s.size ≤ 1000 := by
  unfold pfault at h
  split at h
  · cases h
  · split at h
    · cases h
    · split at h
      · cases h
      · split at h
        · cases h
        · rename_i h1 h2 h3 h4
          exact ⟨by omega, by omega, by omega, fun s hs => Nat.le_of_not_lt fun hl => h4 ⟨s, hs, hl⟩⟩

theorem verify_run {root key : ByteArray} {p : List ByteArray} (h : pfault root key p = 0) : Tr.verify root.data.toList key.data.toList (bl p) = Tr.verEnd (Tr.vloop 0 ⟨Tr.digits key.data.toList, false, [], false, root.data.toList⟩ (bl p)) := by
  obtain ⟨h1, h2, h3, h4⟩ := pfault_none h
  refine Tr.verify_ok (by rw [ba_len]; exact h1) (by rw [ba_len]; exact h2) (by rw [bl_len]; exact h3) ?_
  intro s hs
  obtain ⟨x, hx, rfl⟩ := List.mem_map.1 hs
  rw [ba_len]
  exact h4 x hx

/-- The first node of the way. -/
theorem root_check {W : World} {a : Option Addr} {vs : List Value} {p : List ByteArray} {L : Nat} {g : Option Nat} (hrd : NRd W.heap.size W a vs) (hno : NodesOf L g W.heap.size W vs p) (hsz : ∀ s ∈ p, s.size ≤ 1000) {root d : ByteArray} (hr : root.size = 8) (hd : ∀ c ∈ d.data.toList, c.toNat < 16) {w : World} (hB : Below W.heap.size W w) (hl : LeftAt w W.heap.size a p.length 0) :
    Calls Tryz.prog 125 #[.agg #[.string root, .nilIface], .pointer (some ⟨W.heap.size, 0, none⟩)] w fun e w' => ∃ v' ok, e = .returned (.tuple #[v', .bool ok]) ∧ (ok = true → VJ W a p (Tr.vloop 0 ⟨d.data.toList, false, [], false, root.data.toList⟩ (bl p)) w' v' d) ∧ (ok = false → VQ W a p (Tr.vloop 0 ⟨d.data.toList, false, [], false, root.data.toList⟩ (bl p)) ⟨#[]⟩ false w') := by
  have hrl : root.data.toList.length = 8 := by rw [ba_len]; exact hr
  have hne : root.data.toList ≠ [] := fun e => by rw [e] at hrl; simp at hrl
  refine (check1_any hrd hno hsz root .nilIface (.inl rfl) w hB 0 (Nat.zero_le _) hl).mono ?_
  rintro e w2 ⟨v2, ok, rfl, hB2, g1, g2⟩
  rw [← Tr.fin_zero]
  refine ⟨v2, ok, rfl, fun h => ?_, fun h => ?_⟩
  · subst h
    obtain ⟨hjl, hv2, hsum, hl2⟩ := g1 rfl
    obtain ⟨v', t', lo', B', m', e1, e2, e3, _, e4⟩ := hno.2 0 hjl
    rw [hv2] at e1
    cases e1
    obtain ⟨hsm, henc, hsd⟩ := reads_small (hsz _ (List.getElem_mem hjl)) e2
    refine ⟨hB2, 1, t', m', lo', B', by omega, hjl, e3, e4, hsm, hl2, hd, ?_⟩
    rw [Tr.fin_next _ (by rw [bl_len]; exact hjl), bl_at _ _ hjl, Tr.vstep_reads, e2]
    congr 1
    rw [if_neg]
    simp only [Bool.or_eq_true, decide_eq_true_eq, bne_iff_ne, ne_eq, Bool.and_eq_true]
    rintro ((h | h) | h)
    · exact hne h
    · exact h hsum
    · omega
  · subst h
    obtain ⟨hl2, hw⟩ := g2 rfl
    refine ⟨hB2, 0, Nat.zero_le _, hl2, (fun h => by cases h), fun _ => ?_⟩
    rcases hw with h0 | ⟨hjl, hw⟩
    · rw [Tr.fin_out (by rw [bl_len]; omega)]
      exact Tr.verEnd_need hne
    · rw [Tr.fin_next _ (by rw [bl_len]; exact hjl), bl_at _ _ hjl, Tr.vstep_b hw]
      rfl

set_option maxHeartbeats 3200000 in
theorem check_run (root key : ByteArray) (a : Option Addr) (cap : Nat) (p : List ByteArray) (w : World) (hr : SRd w.heap.size w a p) (hf : pfault root key p = 0) :
    Calls Tryz.prog 98 #[.string root, .string key, .slice a p.length cap] w (CkOk root key p w) := by
  have hpf := proofFault_any root key a cap p w hr
  rw [hf] at hpf
  have HPF := hid hpf
  obtain ⟨h1, h2, h3, h4⟩ := pfault_none hf
  have HVR := hid (verify_run hf)
  have HRA := hid (readAll_any a cap p w hr (by omega) h4)
  have HDG := hid (fun w => digitsOf_any key w (by omega))
  have HDL := hid (Tr.digits_lt key.data.toList)
  have HS := hid (And.intro h1 h4)
  clear hpf hf h1 h2 h3 h4 hr
  go_enter Tryz.func98, Tryz.ntmps98
  go_wp2_with fail
  refine HPF.out.mono ?_
  rintro e w0 ⟨rfl, hw⟩
  obtain rfl := hw.symm
  clear hw
  go_wp2_with fail
  refine HRA.out.mono ?_
  rintro e w1 ⟨r, ok, rfl, b1, g1, g2⟩
  cases ok with
  | false =>
    obtain ⟨rfl, s, hs, hn⟩ := g1 rfl
    have HUN : Hid (Tr.vloop 0 ⟨Tr.digits key.data.toList, false, [], false, root.data.toList⟩ (bl p) = none) := Tr.vloop_unread _ _ _ ⟨_, List.mem_map.2 ⟨s, hs, rfl⟩, hn⟩
    have HB := hid b1
    clear g1 g2 b1 hs hn
    go_wp2_with fail
    exact bodyPost_ret (v := .tuple #[.slice none 0 0, .string ⟨#[]⟩, .int .i64 6]) (by simp [results, Tryz.results98, go_sem]) rfl ⟨_, _, 6, rfl, HB.out, by rw [HVR.out, HUN.out]; rfl, fun _ => rfl, fun h => by cases h⟩
  | true =>
    obtain ⟨vs, ho, hno⟩ := g2 rfl
    obtain ⟨a1, c1, rfl, hc1⟩ := nown_shape ho
    have HO := hid ho
    have HNO := hid hno
    have HLEN : Hid (vs.length = p.length) := hno.1
    have HC1 := hid hc1
    have HB1 := hid b1
    clear g1 g2 ho hno b1 hc1
    rw [HLEN.out]
    go_wp2_with fail
    have HBA : Hid (Below w1.heap.size w1 (w1.alloc (.cells #[.slice a1 p.length c1] 155))) := (Below.refl _ _).alloc (Nat.le_refl _) _
    have HLA : Hid (LeftAt (w1.alloc (.cells #[.slice a1 p.length c1] 155)) w1.heap.size a1 p.length 0) := ⟨a1, c1, heap_alloc_new w1 _, by have := HC1.out; rw [HLEN.out] at this; omega, fun b off h _ => h⟩
    refine (HDG.out _).mono ?_
    rintro e w2 ⟨rfl, b2⟩
    have HB2 : Hid (Below w1.heap.size w1 w2) := HBA.out.trans (b2.mono HBA.out.size)
    have HL2 := hid (left_later HLA.out (left_lt HLA.out) b2)
    clear b2
    go_wp2_with fail
    obtain ⟨R, hR⟩ : ∃ R, R = Tr.vloop 0 ⟨Tr.digits key.data.toList, false, [], false, root.data.toList⟩ (bl p) := ⟨_, rfl⟩
    refine (walk_any 125 enters_check ⟨w1.heap.size, 0, none⟩ root .nilIface (.inl rfl) ⟨(Tr.digits key.data.toList).toArray⟩ w2 (VJ w1 a1 p R) (VQ w1 a1 p R) ?_ (fun w v d h => way_verify (nown_rd HO.out) HNO.out HS.out.2 R w v d h)).mono ?_
    · intro w3 b3
      rw [hR]
      have hb := HB2.out.trans (b3.mono HB2.out.size)
      exact root_check (nown_rd HO.out) HNO.out HS.out.2 HS.out.1 HDL.out hb (left_later HL2.out (left_lt HL2.out) b3)
    rintro e w4 ⟨x, ok, rfl, q⟩
    obtain ⟨hb4, j, hj, hl4, q1, q2⟩ := q
    rw [← hR] at HVR
    have HQ1 := hid q1
    have HQ2 := hid q2
    have HB4 := hid hb4
    have HB5 : Hid (Below w.heap.size w w4) := HB1.out.trans (hb4.mono HB1.out.size)
    obtain ⟨a4, c4, hc4, _, _⟩ := hl4
    have z0 := (cell_of_row _ _ 0 _ _ _ hc4).trans rfl
    clear hR hb4 q1 q2 hc4 HL2 HB2 HLA HBA
    cases ok with
    | false =>
      have HE := hid (HQ2.out rfl)
      clear HQ1 HQ2
      go_wp2_with fail
      exact bodyPost_ret (v := .tuple #[.slice none 0 0, .string ⟨#[]⟩, .int .i64 6]) (by simp [results, Tryz.results98, go_sem]) rfl ⟨_, _, 6, rfl, HB5.out, by rw [HVR.out, HE.out]; rfl, fun _ => rfl, fun h => by cases h⟩
    | true =>
      have HE := hid (HQ1.out rfl)
      clear HQ1 HQ2
      by_cases hjn : p.length ≤ j
      · have hk : p.length - j = 0 := by omega
        rw [if_pos hjn] at HE
        rw [hk] at z0
        clear hk hj
        go_wp2_with fail
        exact bodyPost_ret (v := .tuple #[.slice a1 p.length c1, .string x, .int .i64 0]) (by simp [results, Tryz.results98, go_sem]) rfl ⟨_, _, 0, rfl, HB5.out, by rw [HVR.out, HE.out], (fun h => absurd rfl h), fun _ => ⟨vs, by
          have h1 := nown_later HO.out HB4.out
          rw [HLEN.out] at h1
          exact h1, by
          have h2 := nodes_wider (nodes_later HNO.out HB4.out) HB4.out.size
          rw [HLEN.out] at h2
          exact h2⟩⟩
      · obtain ⟨k, hk⟩ : ∃ k, p.length - j = k + 1 := ⟨p.length - j - 1, by omega⟩
        rw [if_neg hjn] at HE
        rw [hk] at z0
        have i0 : (0 : Int) < (k : Int) + 1 := by omega
        clear hk hj hjn
        go_wp2_with fail
        exact bodyPost_ret (v := .tuple #[.slice none 0 0, .string ⟨#[]⟩, .int .i64 6]) (by simp [results, Tryz.results98, go_sem]) rfl ⟨_, _, 6, rfl, HB5.out, by rw [HVR.out, HE.out]; rfl, fun _ => rfl, fun h => by cases h⟩

theorem check_any (root key : ByteArray) (a : Option Addr) (cap : Nat) (p : List ByteArray) (w : World) (hr : SRd w.heap.size w a p) :
    Calls Tryz.prog 98 #[.string root, .string key, .slice a p.length cap] w (CkOk root key p w) := by
  by_cases hf : pfault root key p = 0
  · exact check_run root key a cap p w hr hf
  · refine (check_fault hf (proofFault_any root key a cap p w hr)).mono ?_
    rintro e w' ⟨rfl, b⟩
    exact ⟨_, _, _, rfl, b, pfault_verify hf, fun _ => rfl, fun h => absurd h hf⟩

end Go.Proofs.YtbmohenjphmlgaaGreat

/- The walks of the comparison of heights (of the program). -/
namespace Go.Proofs.YtbmohenjphmlgaaGreat
open Go.RowKit
set_option maxRecDepth 100000

theorem isNaN_any (x : Int) (w : World) : Calls Tryz.prog 120 #[.int .i64 x] w fun e w' => e = .returned (.bool false) ∧ w' = w := by
  go_enter Tryz.func120, Tryz.ntmps120
  go_wp2_with fail
  go_ret
  exact ⟨by simp, rfl⟩

/-- How two numbers compare. -/
def cmpI (a b : Int) : Int := if a < b then -1 else if b < a then 1 else 0

theorem compare_any (a b : Int) (w : World) : Calls Tryz.prog 92 #[.int .i64 a, .int .i64 b] w fun e w' => e = .returned (.int .i64 (cmpI a b)) ∧ w' = w := by
  have HN := hid (fun x w => isNaN_any x w)
  unfold cmpI
  by_cases h1 : a < b
  · rw [if_pos h1]
    go_enter Tryz.func92, Tryz.ntmps92
    go_wp2_with fail
    refine (HN.out _ _).mono ?_
    rintro e w1 ⟨rfl, rfl⟩
    go_wp2_with fail
    refine (HN.out _ _).mono ?_
    rintro e w1 ⟨rfl, rfl⟩
    go_wp2_with fail
    go_ret
    exact ⟨rfl, rfl⟩
  · rw [if_neg h1]
    by_cases h2 : b < a
    · rw [if_pos h2]
      go_enter Tryz.func92, Tryz.ntmps92
      go_wp2_with fail
      refine (HN.out _ _).mono ?_
      rintro e w1 ⟨rfl, rfl⟩
      go_wp2_with fail
      refine (HN.out _ _).mono ?_
      rintro e w1 ⟨rfl, rfl⟩
      go_wp2_with fail
      go_ret
      exact ⟨rfl, rfl⟩
    · rw [if_neg h2]
      go_enter Tryz.func92, Tryz.ntmps92
      go_wp2_with fail
      refine (HN.out _ _).mono ?_
      rintro e w1 ⟨rfl, rfl⟩
      go_wp2_with fail
      refine (HN.out _ _).mono ?_
      rintro e w1 ⟨rfl, rfl⟩
      go_wp2_with fail
      go_ret
      exact ⟨rfl, rfl⟩

/-- The comparison that the search is handed. -/
theorem place1_any (h : Int) (r : ByteArray) (x : Int) (w : World) : Calls Tryz.prog 91 #[.agg #[.int .i64 h, .string r], .int .i64 x] w fun e w' => e = .returned (.int .i64 (cmpI h x)) ∧ Below w.heap.size w w' := by
  have HC := hid (fun a b w => compare_any a b w)
  go_enter Tryz.func91, Tryz.ntmps91
  go_wp2_with fail
  refine (HC.out _ _ _).mono ?_
  rintro e w1 ⟨rfl, rfl⟩
  go_wp2_with fail
  go_ret
  exact ⟨rfl, (Below.refl _ _).alloc (Nat.le_refl _) _⟩

end Go.Proofs.YtbmohenjphmlgaaGreat

/- The walk of the search for a height among heads (of the program). -/
namespace Go.Proofs.YtbmohenjphmlgaaGreat
open Go.RowKit
set_option maxRecDepth 100000

/-- Heads in a row: height and root of each, in blocks below B. -/
def HRd (B : Nat) (w : World) (a : Option Addr) (l : List (Int × ByteArray)) : Prop :=
  ∀ i, (h : i < l.length) → ∃ b off, a = some ⟨b, off, none⟩ ∧ b < B ∧ w.cell? ⟨b, off + i * 2, none⟩ = some (.int .i64 l[i].1) ∧ w.cell? ⟨b, off + i * 2 + 1, none⟩ = some (.string l[i].2)

theorem HRd.later {B : Nat} {w w' : World} {a : Option Addr} {l : List (Int × ByteArray)} (h : HRd B w a l) (hb : Below B w w') : HRd B w' a l := by
  intro i hi
  obtain ⟨b, off, rfl, hlt, c0, c1⟩ := h i hi
  exact ⟨b, off, rfl, hlt, (hb.cell (p := ⟨b, off + i * 2, none⟩) hlt).trans c0, (hb.cell (p := ⟨b, off + i * 2 + 1, none⟩) hlt).trans c1⟩

/-- Heights rise. -/
def Rises (l : List (Int × ByteArray)) : Prop := l.Pairwise fun a b => a.1 < b.1

theorem Rises.at {l : List (Int × ByteArray)} (h : Rises l) {i j : Nat} (hij : i < j) (hj : j < l.length) : l[i].1 < l[j].1 := List.pairwise_iff_getElem.1 h i j (by omega) hj hij

theorem mid_nat (i j : Nat) : ((i : Int) + j) / 2 = (((i + j) / 2 : Nat) : Int) := by omega

/-- Where the search ends. -/
theorem search_end {l : List (Int × ByteArray)} {x : Int} {i j : Nat} {w wr : World} (hij : i ≤ j) (hlt : ¬ i < j) (hj : j ≤ l.length) (h1 : ∀ k, (h : k < l.length) → k < i → l[k].1 < x) (h2 : ∀ k, (h : k < l.length) → j ≤ k → x ≤ l[k].1) (h3 : Below w.heap.size w wr) {b : Bool} (hb : b = decide (∃ h : i < l.length, l[i].1 = x)) :
    (∃ p : Nat, Ending.returned (.tuple #[.int .i64 i, .bool b]) = .returned (.tuple #[.int .i64 p, .bool (decide (∃ h : p < l.length, l[p].1 = x))]) ∧ p ≤ l.length ∧ (∀ i, (h : i < l.length) → i < p → l[i].1 < x) ∧ (∀ i, (h : i < l.length) → p ≤ i → x ≤ l[i].1)) ∧ Below w.heap.size w wr :=
  ⟨⟨i, by rw [hb], by omega, h1, fun k hk hik => h2 k hk (by omega)⟩, h3⟩

theorem search_up {l : List (Int × ByteArray)} {x : Int} {m : Nat} (hs : Rises l) (hm : m < l.length) (h : l[m].1 < x) : ∀ k, (hk : k < l.length) → k < m + 1 → l[k].1 < x := by
  intro k hk hlt
  by_cases e : k = m
  · subst e; exact h
  · have := hs.at (i := k) (j := m) (by omega) hm
    omega

theorem search_down {l : List (Int × ByteArray)} {x : Int} {m : Nat} (hs : Rises l) (hm : m < l.length) (h : x ≤ l[m].1) : ∀ k, (hk : k < l.length) → m ≤ k → x ≤ l[k].1 := by
  intro k hk hle
  by_cases e : k = m
  · subst e; exact h
  · have := hs.at (i := m) (j := k) (by omega) hk
    omega

set_option maxHeartbeats 1600000 in
theorem search_any (a : Option Addr) (cap : Nat) (l : List (Int × ByteArray)) (x : Int) (w : World) (hr : HRd w.heap.size w a l) (hl : l.length ≤ 1000) (hs : Rises l) :
    Calls Tryz.prog 90 #[.slice a l.length cap, .int .i64 x, .func (.func 91) #[] #[]] w
      fun e w' => (∃ p : Nat, e = .returned (.tuple #[.int .i64 p, .bool (decide (∃ h : p < l.length, l[p].1 = x))]) ∧ p ≤ l.length ∧ (∀ i, (h : i < l.length) → i < p → l[i].1 < x) ∧ (∀ i, (h : i < l.length) → p ≤ i → x ≤ l[i].1)) ∧ Below w.heap.size w w' := by
  have HR := hid hr
  have HC := hid (fun h r x w => place1_any h r x w)
  have HS := hid hs
  clear hr hs
  go_enter Tryz.func90, Tryz.ntmps90
  go_wp2_with fail
  go_loopw [9, 10] (fun u v wr => ∃ i j : Nat, u = .int .i64 i ∧ v = .int .i64 j ∧ i ≤ j ∧ j ≤ l.length ∧ Hid ((∀ k, (h : k < l.length) → k < i → l[k].1 < x) ∧ (∀ k, (h : k < l.length) → j ≤ k → x ≤ l[k].1) ∧ Below w.heap.size w wr)) (fun u v _ => (intOf v).toNat - (intOf u).toNat)
  case atStart => exact ⟨0, l.length, rfl, rfl, Nat.zero_le _, Nat.le_refl _, fun k _ h => by omega, fun k h1 h2 => by omega, Below.refl _ _⟩
  case round =>
    obtain ⟨i, j, rfl, rfl, hij, hj, HH⟩ := hrel
    by_cases hlt : i < j
    · have i1 : (i : Int) < (j : Int) := by omega
      have hm : (i + j) / 2 < l.length := by omega
      obtain ⟨b, off, rfl, hb, e0, e1⟩ := HR.out ((i + j) / 2) hm
      obtain ⟨hv, hhv⟩ : ∃ v, v = l[(i + j) / 2].1 := ⟨_, rfl⟩
      obtain ⟨rv, hrv⟩ : ∃ v, v = l[(i + j) / 2].2 := ⟨_, rfl⟩
      have HV : Hid (hv = l[(i + j) / 2].1) := hhv
      have f0 : wr.cell? ⟨b, off + (i + j) / 2 * 2, none⟩ = some (.int .i64 hv) := by
        rw [hhv]
        exact (HH.out.2.2.cell (p := ⟨b, off + (i + j) / 2 * 2, none⟩) hb).trans e0
      have f1 : wr.cell? ⟨b, off + (i + j) / 2 * 2 + 1, none⟩ = some (.string rv) := by
        rw [hrv]
        exact (HH.out.2.2.cell (p := ⟨b, off + (i + j) / 2 * 2 + 1, none⟩) hb).trans e1
      clear hhv hrv
      have j1 : (0 : Int) ≤ ((i : Int) + j) / 2 := by omega
      have j2 : ((i : Int) + j) / 2 < (l.length : Int) := by omega
      clear e0 e1
      go_wp2_with fail
      refine (HC.out _ _ _ _).mono ?_
      rintro e w1 ⟨rfl, b1⟩
      have HB1 : Hid (Below w.heap.size w w1) := HH.out.2.2.trans (b1.mono HH.out.2.2.size)
      clear b1
      unfold cmpI
      by_cases hc : hv < x
      · rw [if_pos hc]
        go_wp2_with fail
        refine ⟨⟨(i + j) / 2 + 1, j, by rw [mid_nat]; rfl, rfl, by omega, hj, search_up HS.out hm (by rw [← HV.out]; exact hc), HH.out.2.1, HB1.out⟩, ?_⟩
        rw [mid_nat]
        show ((j : Int)).toNat - ((((i + j) / 2 : Nat) : Int) + 1).toNat < ((j : Int)).toNat - ((i : Int)).toNat
        omega
      · rw [if_neg hc]
        have hend : (∃ i_1 j_1 : Nat, Value.int .i64 i = .int .i64 i_1 ∧ Value.int .i64 (((i : Int) + j) / 2) = .int .i64 j_1 ∧ i_1 ≤ j_1 ∧ j_1 ≤ l.length ∧ Hid ((∀ k, (h : k < l.length) → k < i_1 → l[k].1 < x) ∧ (∀ k, (h : k < l.length) → j_1 ≤ k → x ≤ l[k].1) ∧ Below w.heap.size w w1)) ∧ (intOf (.int .i64 (((i : Int) + j) / 2))).toNat - (intOf (.int .i64 i)).toNat < (intOf (.int .i64 j)).toNat - (intOf (.int .i64 i)).toNat := by
          refine ⟨⟨i, (i + j) / 2, rfl, by rw [mid_nat], by omega, by omega, HH.out.1, search_down HS.out hm (by rw [← HV.out]; omega), HB1.out⟩, ?_⟩
          rw [mid_nat]
          show ((((i + j) / 2 : Nat) : Int)).toNat - ((i : Int)).toNat < ((j : Int)).toNat - ((i : Int)).toNat
          omega
        have HE := hid hend
        clear hend
        by_cases hc2 : x < hv
        · rw [if_pos hc2]
          go_wp2_with fail
          exact HE.out
        · rw [if_neg hc2]
          go_wp2_with fail
          exact HE.out
    · have i1 : ¬ (i : Int) < (j : Int) := by omega
      by_cases hn : i < l.length
      · obtain ⟨b, off, rfl, hb, e0, e1⟩ := HR.out i hn
        have f0 := (HH.out.2.2.cell (p := ⟨b, off + i * 2, none⟩) hb).trans e0
        have f1 := (HH.out.2.2.cell (p := ⟨b, off + i * 2 + 1, none⟩) hb).trans e1
        have j1 : (0 : Int) ≤ (i : Int) := by omega
        have j2 : (i : Int) < (l.length : Int) := by omega
        clear e0 e1
        go_wp2_with fail
        refine (HC.out _ _ _ _).mono ?_
        rintro e w1 ⟨rfl, b1⟩
        go_wp2_with fail
        go_ret2
        exact search_end hij hlt hj HH.out.1 HH.out.2.1 (HH.out.2.2.trans (b1.mono HH.out.2.2.size)) (by
          unfold cmpI
          by_cases h1 : l[i].1 < x
          · rw [if_pos h1]; simp [hn]; omega
          · rw [if_neg h1]
            by_cases h2 : x < l[i].1
            · rw [if_pos h2]; simp [hn]; omega
            · rw [if_neg h2]; simp [hn]; omega)
      · have i2 : ¬ (i : Int) < (l.length : Int) := by omega
        go_wp2_with fail
        go_ret2
        exact search_end hij hlt hj HH.out.1 HH.out.2.1 HH.out.2.2 (by simp [hn])

theorem place_any (kb : Nat) (a : Option Addr) (cap : Nat) (l : List (Int × ByteArray)) (y : Value) (x : Int) (w : World) (hk : w.heap[kb]? = some (.cells #[.slice a l.length cap, y] 94 (0, 0))) (hr : HRd w.heap.size w a l) (hl : l.length ≤ 1000) (hs : Rises l) :
    Calls Tryz.prog 52 #[.pointer (some ⟨kb, 0, none⟩), .int .i64 x] w
      fun e w' => (∃ p : Nat, e = .returned (.tuple #[.int .i64 p, .bool (decide (∃ h : p < l.length, l[p].1 = x))]) ∧ p ≤ l.length ∧ (∀ i, (h : i < l.length) → i < p → l[i].1 < x) ∧ (∀ i, (h : i < l.length) → p ≤ i → x ≤ l[i].1)) ∧ Below w.heap.size w w' := by
  have HS := hid (search_any a cap l x w hr hl hs)
  have c0 := cell_of_row _ _ 0 _ _ _ hk
  clear hr hs hk
  go_enter Tryz.func52, Tryz.ntmps52
  go_wp2_with fail
  refine HS.out.mono ?_
  rintro e w1 ⟨⟨p, rfl, h1, h2, h3⟩, b1⟩
  go_wp2_with fail
  go_ret2
  exact ⟨⟨p, rfl, h1, h2, h3⟩, b1⟩

end Go.Proofs.YtbmohenjphmlgaaGreat

/- What a keeper has in memory; Open; the calls of Trust that change nothing (of the program). -/
namespace Go.Proofs.YtbmohenjphmlgaaGreat
open Go.RowKit
set_option maxRecDepth 100000

/-- Only blocks of 'own' have turned. -/
structure Turns (own : Nat → Prop) (w w' : World) : Prop where
  os : w'.os = w.os
  tape : w'.tape = w.tape
  output : w'.output = w.output
  size : w.heap.size ≤ w'.heap.size
  block : ∀ k, k < w.heap.size → ¬ own k → w'.heap[k]? = w.heap[k]?

theorem Turns.refl (own : Nat → Prop) (w : World) : Turns own w w := ⟨rfl, rfl, rfl, Nat.le_refl _, fun _ _ _ => rfl⟩
theorem Turns.of_below {own : Nat → Prop} {w w' : World} (h : Below w.heap.size w w') : Turns own w w' := ⟨h.os, h.tape, h.output, h.size, fun k hk _ => h.block k hk⟩
theorem Turns.trans {own : Nat → Prop} {a b c : World} (h : Turns own a b) (k : Turns own b c) : Turns own a c :=
  ⟨k.os.trans h.os, k.tape.trans h.tape, k.output.trans h.output, Nat.le_trans h.size k.size, fun i hi ho => (k.block i (Nat.lt_of_lt_of_le hi h.size) ho).trans (h.block i hi ho)⟩
theorem Turns.wider {own own' : Nat → Prop} {w w' : World} (h : Turns own w w') (ho : ∀ k, k < w.heap.size → own k → own' k) : Turns own' w w' := ⟨h.os, h.tape, h.output, h.size, fun k hk hn => h.block k hk fun x => hn (ho k hk x)⟩
theorem Turns.below {own : Nat → Prop} {W w w' : World} {B : Nat} (h : Turns own w w') (hb : Below B W w) (hB : B ≤ w.heap.size) (ho : ∀ k, own k → B ≤ k) : Below B W w' :=
  hb.trans ⟨h.os, h.tape, h.output, h.size, fun k hk => h.block k (by omega) fun x => by have := ho k x; omega⟩

/-- Heads in a row of its own. -/
def hcells (l : List (Int × ByteArray)) : List Value := l.flatMap fun p => [.int .i64 p.1, .string p.2]
theorem hcells_len (l : List (Int × ByteArray)) : (hcells l).length = l.length * 2 := by
  induction l with
  | nil => rfl
  | cons x l ih =>
    have e : hcells (x :: l) = .int .i64 x.1 :: .string x.2 :: hcells l := rfl
    rw [e]; simp only [List.length_cons, ih]; omega
theorem hcells_at (l : List (Int × ByteArray)) (i : Nat) (h : i < l.length) : (hcells l)[i * 2]? = some (.int .i64 l[i].1) ∧ (hcells l)[i * 2 + 1]? = some (.string l[i].2) := by
  induction l generalizing i with
  | nil => simp at h
  | cons x l ih =>
    cases i with
    | zero => exact ⟨rfl, rfl⟩
    | succ i =>
      have := ih i (by simpa using h)
      have e : hcells (x :: l) = .int .i64 x.1 :: .string x.2 :: hcells l := rfl
      rw [e, show (i + 1) * 2 = i * 2 + 1 + 1 by omega, show i * 2 + 1 + 1 + 1 = (i * 2 + 1) + 1 + 1 by omega]
      simpa using this

def HOwn (w : World) (base : Nat) (v : Value) (l : List (Int × ByteArray)) : Prop := w.ownsRow base 99 2 v l.length (hcells l)

theorem hown_nil (w : World) (base : Nat) : HOwn w base (.slice none 0 0) [] := World.ownsRow_nil _ _ _ _

theorem hown_shape {w : World} {base : Nat} {v : Value} {l : List (Int × ByteArray)} (h : HOwn w base v l) : ∃ a cap, v = .slice a l.length cap := by
  rcases h.2 with ⟨rfl, h0⟩ | ⟨g, cap, cur, rfl, _⟩
  · exact ⟨none, 0, by rw [h0]⟩
  · exact ⟨_, cap, rfl⟩

theorem hown_lt {w : World} {b : Nat} {v : Value} {l : List (Int × ByteArray)} (h : HOwn w b v l) : ∀ g, v.ownBlock = some g → b ≤ g ∧ g < w.heap.size := World.ownsRow.lt h

theorem hown_frame {w w' : World} {b : Nat} {v : Value} {l : List (Int × ByteArray)} (h : HOwn w b v l) (hg : ∀ g, v.ownBlock = some g → w'.heap[g]? = w.heap[g]?) : HOwn w' b v l := owns_frame h hg

theorem hown_later {w w' : World} {b : Nat} {v : Value} {l : List (Int × ByteArray)} (h : HOwn w b v l) (hb : Below w.heap.size w w') : HOwn w' b v l := hown_frame h fun g hg => hb.block g (hown_lt h g hg).2

theorem hown_rd {w : World} {b : Nat} {a : Option Addr} {n cap : Nat} {l : List (Int × ByteArray)} (h : HOwn w b (.slice a n cap) l) : HRd w.heap.size w a l := by
  intro i hi
  rcases h.2 with ⟨_, h0⟩ | ⟨g, cap', cur, hv, hbg, hg, _⟩
  · omega
  · have hlt := (Array.getElem?_eq_some_iff.1 hg).1
    simp only [Value.slice.injEq] at hv
    obtain ⟨rfl, _, _⟩ := hv
    have hc := World.ownsRow.cells (g := g) h rfl
    have e := hcells_at l i hi
    have a0 : ((⟨g, 0, none⟩ : Addr).add (i * 2)) = ⟨g, 0 + i * 2, none⟩ := by unfold Addr.add; split <;> simp_all
    have a1 : ((⟨g, 0, none⟩ : Addr).add (i * 2 + 1)) = ⟨g, 0 + i * 2 + 1, none⟩ := by unfold Addr.add; split <;> simp_all <;> omega
    exact ⟨g, 0, rfl, hlt, a0 ▸ hc _ _ e.1, a1 ▸ hc _ _ e.2⟩

/-- A keeper's blocks: it, what is within, its heads, its store, the store's map. -/
structure Kb (w : World) (k0 k1 k2 k3 : Nat) (hv : Value) (M : Obj) : Prop where
  outer : w.heap[k0]? = some (.cells #[.pointer (some ⟨k1, 0, none⟩)] 71 (0, 0))
  inner : w.heap[k1]? = some (.cells #[hv, .pointer (some ⟨k2, 0, none⟩)] 94 (0, 0))
  store : w.heap[k2]? = some (.cells #[.map (some k3)] 148 (0, 0))
  map : w.heap[k3]? = some M

theorem newStore_any (w : World) : Calls Tryz.prog 50 #[] w fun e w' => e = .returned (.pointer (some ⟨w.heap.size + 1, 0, none⟩)) ∧ w' = (w.alloc (.map #[] 0)).alloc (.cells #[.map (some w.heap.size)] 148) := by
  have hmm := @run_makeMap Tryz.prog
  go_enter Tryz.func50, Tryz.ntmps50
  go_wp2_with fail
  go_ret
  exact ⟨by simp, rfl⟩

/-- Three blocks laid one behind the other. -/
theorem laid3 (w : World) (A B C : Obj) : ((((w.alloc A).alloc B).alloc C).heap[w.heap.size]? = some A ∧ (((w.alloc A).alloc B).alloc C).heap[w.heap.size + 1]? = some B ∧ (((w.alloc A).alloc B).alloc C).heap[w.heap.size + 2]? = some C) ∧ (((w.alloc A).alloc B).alloc C).heap.size = w.heap.size + 3 ∧ Below w.heap.size w (((w.alloc A).alloc B).alloc C) := by
  have s1 : (w.alloc A).heap.size = w.heap.size + 1 := Array.size_push _
  have s2 : ((w.alloc A).alloc B).heap.size = w.heap.size + 1 + 1 := (Array.size_push _).trans (congrArg (· + 1) s1)
  have s3 : (((w.alloc A).alloc B).alloc C).heap.size = w.heap.size + 1 + 1 + 1 := (Array.size_push _).trans (congrArg (· + 1) s2)
  have b0 : Below w.heap.size w (w.alloc A) := (Below.refl _ _).alloc (Nat.le_refl _) _
  have b1 := b0.alloc b0.size B
  have n1 := heap_alloc_new (w.alloc A) B
  have n2 := heap_alloc_new ((w.alloc A).alloc B) C
  rw [s1] at n1
  rw [s2] at n2
  refine ⟨⟨?_, ?_, n2⟩, s3, b1.alloc b1.size C⟩
  · rw [Below.heap_alloc _ _ _ (by omega), Below.heap_alloc _ _ _ (by omega)]; exact heap_alloc_new w A
  · rw [Below.heap_alloc _ _ _ (by omega)]; exact n1

theorem newKeeper_any (w : World) : Calls Tryz.prog 27 #[] w fun e w' => e = .returned (.pointer (some ⟨w.heap.size + 2, 0, none⟩)) ∧
    Hid ((w'.heap[w.heap.size]? = some (.map #[] 0) ∧ w'.heap[w.heap.size + 1]? = some (.cells #[.map (some w.heap.size)] 148) ∧ w'.heap[w.heap.size + 2]? = some (.cells #[.slice none 0 0, .pointer (some ⟨w.heap.size + 1, 0, none⟩)] 94)) ∧ w'.heap.size = w.heap.size + 3 ∧ Below w.heap.size w w') := by
  have HN := hid (fun w => newStore_any w)
  go_enter Tryz.func27, Tryz.ntmps27
  go_wp2_with fail
  refine (HN.out _).mono ?_
  rintro e w1 ⟨rfl, rfl⟩
  go_wp2_with fail
  go_ret
  exact ⟨by simp, laid3 _ _ _ _⟩

theorem open_any (w : World) : Calls Tryz.prog 11 #[] w fun e w' => e = .returned (.pointer (some ⟨w.heap.size + 3, 0, none⟩)) ∧ Hid (Kb w' (w.heap.size + 3) (w.heap.size + 2) (w.heap.size + 1) w.heap.size (.slice none 0 0) (.map #[] 0) ∧ Below w.heap.size w w') := by
  have HN := hid (fun w => newKeeper_any w)
  go_enter Tryz.func11, Tryz.ntmps11
  go_wp2_with fail
  refine (HN.out _).mono ?_
  rintro e w1 ⟨rfl, H1⟩
  go_wp2_with fail
  go_ret
  obtain ⟨⟨h0, h1, h2⟩, hs, hb⟩ := H1.out
  refine ⟨by rw [hs]; rfl, ⟨?_, ?_, ?_, ?_⟩, hb.alloc hb.size _⟩
  · rw [← hs]; exact heap_alloc_new w1 _
  · exact (Below.heap_alloc _ _ _ (by omega)).trans h2
  · exact (Below.heap_alloc _ _ _ (by omega)).trans h1
  · exact (Below.heap_alloc _ _ _ (by omega)).trans h0

end Go.Proofs.YtbmohenjphmlgaaGreat
