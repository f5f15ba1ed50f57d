/- Part 28 of a proof: what the last text needs. -/
import Derived.Test.YtbmohenjphmlgaaPart27
import Derived.Test.YtbmohenjphmlgaaPart5
import Derived.Test.YtbmohenjphmlgaaPart26
import Derived.Test.YtbmohenjphmlgaaPart9
import Derived.Test.YtbmohenjphmlgaaPart19
import Derived.Test.YtbmohenjphmlgaaRows
import Derived.ProofKit
import Derived.OpenShut
import Derived.ShutString
import Derived.ChangeOld
import Derived.JoinedCond
import Derived.Lib.SmallJoins
import Derived.SliceStrings
/- The way that a proof goes (of the program's check): what holds at each node. -/
namespace Go.Proofs.Ytbmohenjphmlgaa
open Go.RowKit
set_option maxRecDepth 100000

def bl (p : List ByteArray) : List (List UInt8) := p.map fun s => s.data.toList

theorem bl_len (p : List ByteArray) : (bl p).length = p.length := by simp [bl]
theorem bl_at (p : List ByteArray) (i : Nat) (h : i < p.length) : (bl p)[i]'(by rw [bl_len]; exact h) = p[i].data.toList := by simp [bl]

/-- What holds at a node on the way: R is what all of the proof tells. -/
def VJ (W : World) (a : Option Addr) (p : List ByteArray) (R : Option Tr.Way) (w : World) (v : Value) (d : ByteArray) : Prop :=
  Below W.heap.size W w ∧ ∃ j t m lo B, 0 < j ∧ j ≤ p.length ∧ B ≤ W.heap.size ∧ RN lo B W m v t ∧ Small t ∧ LeftAt w W.heap.size a p.length j ∧ (∀ c ∈ d.data.toList, c.toNat < 16) ∧ R = Tr.fin (bl p) j (Tr.goes t d.data.toList false)

/-- What holds at the end of the way. -/
def VQ (W : World) (a : Option Addr) (p : List ByteArray) (R : Option Tr.Way) (x : ByteArray) (ok : Bool) (w : World) : Prop :=
  Below W.heap.size W w ∧ ∃ j, j ≤ p.length ∧ LeftAt w W.heap.size a p.length j ∧ (ok = true → Tr.verEnd R = if p.length ≤ j then (x.data.toList, !x.data.toList.isEmpty, 0) else ([], false, 6)) ∧ (ok = false → Tr.verEnd R = ([], false, 6))

theorem sum_eight {t : Itm} (h : Tr.isSum t = true) : t.bytes.length = 8 := by
  unfold Tr.isSum at h
  simp at h
  exact h.2

section
variable {W : World} {a : Option Addr} {vs : List Value} {p : List ByteArray} {g : Option Nat} (hrd : NRd W.heap.size W a vs) (hno : NodesOf g W.heap.size W vs p) (hsz : ∀ s ∈ p, s.size ≤ 1000)
include hrd hno hsz

/-- A reference by a sum is followed in a proof. -/
theorem follow_check {w : World} {v n : Value} {k : Nat} {l : Bool} {s0 : ByteArray} {a0 : Option Addr} {n0 cap0 : Nat} {R : Option Tr.Way} {s rest : ByteArray} {j : Nat} {br : Bool} (hnd : Nd v k l s0 a0 n0 cap0) (hn : IsNode n) (hs : s.size = 8) (hbr : br = decide (k = 2)) (hB : Below W.heap.size W w) (hj0 : 0 < j) (hj : j ≤ p.length) (hl : LeftAt w W.heap.size a p.length j)
    (hd : ∀ c ∈ rest.data.toList, c.toNat < 16) (hR : R = Tr.fin (bl p) j (some ⟨rest.data.toList, br, [], false, s.data.toList⟩)) :
    Calls Try.prog 122 #[v, .agg #[.string s, n], .func (.func 105) #[] #[.pointer (some ⟨W.heap.size, 0, none⟩)]] w fun e w' => ∃ v' ok, e = .returned (.tuple #[v', .bool ok]) ∧ (ok = true → VJ W a p R w' v' rest) ∧ (ok = false → VQ W a p R ⟨#[]⟩ false w') := by
  have hsl : s.data.toList.length = 8 := by rw [ba_len]; exact hs
  have hne : s.data.toList ≠ [] := fun e => by rw [e] at hsl; simp at hsl
  refine follow_sum w enters_check hn (by omega) (fun v' ok w' => (ok = true → VJ W a p R w' v' rest) ∧ (ok = false → VQ W a p R ⟨#[]⟩ false w')) ?_
  intro w1 b1
  have hB1 : Below W.heap.size W w1 := hB.trans (b1.mono hB.size)
  refine (check1_any hrd hno hsz s n hn w1 hB1 j hj (left_later hl (left_lt hl) b1)).mono ?_
  rintro e w2 ⟨v2, ok, rfl, hB2, g1, g2⟩
  refine ⟨v2, ok, rfl, fun h => ?_, fun h => ?_⟩
  · subst h
    obtain ⟨hl2, hw⟩ := g2 rfl
    refine ⟨fun h => (by cases h), fun _ => ⟨hB2, j, hj, hl2, (fun h => by cases h), fun _ => ?_⟩⟩
    rw [hR]
    rcases hw with rfl | ⟨hjl, hw⟩
    · rw [Tr.fin_out (by rw [bl_len]; exact Nat.le_refl _)]
      exact Tr.verEnd_need hne
    · rw [Tr.fin_next _ (by rw [bl_len]; exact hjl), bl_at _ _ hjl, Tr.vstep_b hw]
      rfl
  · subst h
    obtain ⟨hjl, hv2, hsum, hl2⟩ := g1 rfl
    obtain ⟨v', t', lo', B', m', e1, e2, e3, _, e4⟩ := hno.2 j hjl
    rw [hv2] at e1
    cases e1
    obtain ⟨hsm, henc, hsd⟩ := reads_small (hsz _ (List.getElem_mem hjl)) e2
    obtain ⟨k', l', s', a', n', cap', hnd', hrep', _, hk'⟩ := rn_nd hsm.pure e4
    obtain ⟨m', rfl⟩ : ∃ m, m' = m + 1 := by
      cases m' with
      | zero => exact e4.elim
      | succ m => exact ⟨m, rfl⟩
    refine (mayFollow_any w2 hnd hnd' hsm (rep_wider (Nat.le_trans e3 hB2.size) _ _ _ (rep_frame (hB2.mono e3) _ _ _ hrep'))).mono ?_
    rintro e w3 ⟨rfl, b3⟩
    have hB3 : Below W.heap.size W w3 := hB2.trans (b3.mono hB2.size)
    have hl3 := left_later hl2 (left_lt hl2) b3
    have hfin : R = Tr.fin (bl p) (j + 1) (if (Itm.enc t').length < 8 then none else Tr.goes t' rest.data.toList br) := by
      rw [hR, Tr.fin_next _ (by rw [bl_len]; exact hjl), bl_at _ _ hjl, Tr.vstep_reads, e2]
      congr 1
      rw [henc]
      by_cases h8 : (Itm.enc t').length < 8
      · rw [if_pos h8, if_pos]
        simp [hj0, h8]
      · rw [if_neg h8, if_neg]
        rw [← henc]
        simp only [Bool.or_eq_true, decide_eq_true_eq, bne_iff_ne, ne_eq, Bool.and_eq_true]
        rintro ((h | h) | h)
        · exact hne h
        · exact h hsum
        · rw [henc] at h; exact h8 h.2
    refine ⟨_, rfl, fun h => ?_, fun h => ?_⟩
    · unfold mayB at h
      simp only [Bool.and_eq_true, Bool.not_eq_true', decide_eq_false_iff_not, Bool.or_eq_true, decide_eq_true_eq] at h
      refine ⟨hB3, j + 1, t', _, lo', B', by omega, by omega, e3, e4, hsm, hl3, hd, ?_⟩
      rw [hfin, if_neg h.1]
      congr 1
      cases br with
      | false => rfl
      | true =>
        have h2 : k = 2 := of_decide_eq_true hbr.symm
        rcases h.2 with h | h
        · exact absurd h2 h
        · exact Tr.goes_true _ (hk'.1 h)
    · refine ⟨hB3, j + 1, by omega, hl3, (fun h => by cases h), fun _ => ?_⟩
      rw [hfin]
      split
      · rfl
      · rename_i h8
        unfold mayB at h
        rw [decide_eq_false h8] at h
        simp only [Bool.not_false, Bool.true_and, Bool.or_eq_false_iff, decide_eq_false_iff_not, Decidable.not_not] at h
        have hb : Tr.isBranch t' = false := by
          cases hb : Tr.isBranch t' with
          | false => rfl
          | true => exact absurd (hk'.2 hb) h.2
        rw [hbr, decide_eq_true h.1, Tr.goes_stop _ hb]
        rfl

theorem way_verify (R : Option Tr.Way) (w : World) (v : Value) (d : ByteArray) (h : VJ W a p R w v d) : Way 105 ⟨W.heap.size, 0, none⟩ (VJ W a p R) (VQ W a p R) w v d := by
  obtain ⟨hB, j, t, m, lo, B, hj0, hj, hBW, hrn, hsm, hl, hd, hR⟩ := h
  have ends : ∀ (x : ByteArray) (y : Tr.Way), Tr.goes t d.data.toList false = some y → y.need = [] → y.value = x.data.toList → y.found = !x.data.toList.isEmpty → ∀ w', Below w.heap.size w w' → VQ W a p R x true w' := by
    intro x y he hn hv hf w' b
    refine ⟨hB.trans (b.mono hB.size), j, hj, left_later hl (left_lt hl) b, fun _ => ?_, fun h => by cases h⟩
    rw [hR, he, Tr.fin_end hn, hv, hf, bl_len]
  cases m with
  | zero => exact hrn.elim
  | succ m =>
    have nb : t.items.length = 2 → Tr.isBranch t = false := fun h => by unfold Tr.isBranch; rw [h]; simp
    have ne : t.list = true → Tr.isEmpty t = false := fun h => by unfold Tr.isEmpty; rw [h]; rfl
    rcases hrn with ⟨he, rfl⟩ | ⟨a1, cap, q, x, h0, h1, h2, h3, h4, h5, rfl⟩ | ⟨a1, cap, q, s, h0, h1, h2, h3, h4, h5, h6, rfl⟩ | ⟨a1, cap, cs, x, h1, h2, h3, h4, rfl, h6⟩
    · exact ⟨_, _, _, _, _, steps_empty d, .inl rfl, fun _ => ends _ _ (Tr.goes_empty _ he) rfl rfl rfl, fun h => by cases h⟩
    · refine ⟨_, _, _, _, _, steps_leaf a1 cap q x d, .inl rfl, fun _ => ?_, fun h => by cases h⟩
      have hg := Tr.goes_leaf d.data.toList q.data.toList (nb h1) (ne h0) h3
      by_cases hq : d = q
      · rw [if_pos hq]
        rw [if_pos (by rw [hq])] at hg
        refine ends _ _ hg rfl h5.symm ?_
        rw [h5]
        unfold Tr.isValue at h4
        simp only [Bool.and_eq_true, decide_eq_true_eq] at h4
        cases hb : (Tr.kid t 1).bytes with
        | nil => rw [hb] at h4; simp at h4
        | cons c r => rfl
      · rw [if_neg hq]
        rw [if_neg (fun e => hq (by cases d; cases q; simp_all))] at hg
        exact ends _ _ hg rfl rfl rfl
    · have hs8 : s.size = 8 := by rw [← ba_len, h6]; exact sum_eight h5
      refine ⟨_, _, _, _, _, steps_ext a1 cap q s d _ (.inl rfl), .inl rfl, fun hn => ?_, fun hp => ?_⟩
      · refine ends _ _ (Tr.goes_miss d.data.toList q.data.toList (nb h1) (ne h0) h3 ?_) rfl rfl rfl
        by_cases hlt : d.data.toList.length < q.data.toList.length
        · exact .inl hlt
        · right
          intro e
          have : pre q d = true := by
            unfold pre
            rw [List.isPrefixOf_iff_prefix, ← e]
            exact List.take_prefix _ _
          rw [hn] at this
          cases this
      · have hcut := cutP_list hp
        have hle := pre_size hp
        have hpre : q.data.toList <+: d.data.toList := List.isPrefixOf_iff_prefix.1 hp
        refine ⟨?_, fun w' b => ?_⟩
        · rw [← ba_len, hcut, ← ba_len d, List.length_drop, ba_len]; omega
        · refine follow_check hrd hno hsz (nd_ext a1 cap q s .nilIface) (.inl rfl) hs8 (br := true) rfl (hB.trans (b.mono hB.size)) hj0 hj (left_later hl (left_lt hl) b) ?_ ?_
          · rw [hcut]; exact fun c hc => hd c (List.mem_of_mem_drop hc)
          · rw [hR]
            congr 1
            rw [Tr.goes_hit d.data.toList q.data.toList (nb h1) (ne h0) h1 h3 (by rw [ba_len, ba_len]; omega) (List.prefix_iff_eq_take.1 hpre).symm]
            unfold Tr.refers Tr.refersOf
            rw [if_pos h5, hcut, ba_len, h6]
    · cases hdl : d.data.toList with
      | nil =>
        have : d = ⟨#[]⟩ := by cases d; simp_all
        subst this
        refine ⟨_, _, _, _, _, steps_end a1 cap cs x h3, .inl rfl, fun _ => ends _ _ (Tr.goes_end false h1) rfl h4.symm (by rw [h4]; rfl), fun h => by cases h⟩
      | cons c r =>
        have hc : c.toNat < 16 := hd c (by rw [hdl]; exact List.mem_cons_self ..)
        obtain ⟨s, vd, g1, g2, g3⟩ := h6 c.toNat hc
        have hkid : Small (Tr.kid t c.toNat) := kid_small hsm (by rw [Tr.branch_len h1]; omega)
        have hdown := Tr.goes_down c r false h1 (by omega)
        have hdr : ∀ y ∈ (⟨r.toArray⟩ : ByteArray).data.toList, y.toNat < 16 := fun y hy => hd y (by rw [hdl]; exact List.mem_cons_of_mem _ hy)
        have hsz' : (⟨r.toArray⟩ : ByteArray).size < d.size := by
          show r.toArray.size < d.size
          rw [← ba_len d, hdl, List.size_toArray, List.length_cons]; omega
        rw [hdl, hdown] at hR
        unfold Tr.refers Tr.refersOf at hR
        rcases g3 with ⟨k1, k2, rfl⟩ | ⟨k1, rfl, k3, k4⟩
        · rw [if_pos k1] at hR
          refine ⟨_, _, _, _, _, steps_branch a1 cap cs x d h3 c r hdl hc _ _ (.inl rfl) g1 g2, .inl rfl, (fun h => by cases h), fun _ => ⟨hsz', fun w' b => ?_⟩⟩
          exact follow_check hrd hno hsz (nd_branch a1 cap cs x) (.inl rfl) (by rw [← ba_len, k2]; exact sum_eight k1) (br := false) rfl (hB.trans (b.mono hB.size)) hj0 hj (left_later hl (left_lt hl) b) hdr (by rw [hR, k2])
        · rw [if_neg (by rw [k1]; decide)] at hR
          have hin := rn_node hkid.pure k3
          refine ⟨_, _, _, _, _, steps_branch a1 cap cs x d h3 c r hdl hc _ _ hin g1 g2, hin, (fun h => by cases h), fun _ => ⟨hsz', fun w' b => ?_⟩⟩
          refine (follow_own w' hin).mono ?_
          rintro e w2 ⟨rfl, b2⟩
          have hB' : Below W.heap.size W w' := hB.trans (b.mono hB.size)
          have hl' := left_later hl (left_lt hl) b
          exact ⟨_, _, rfl, fun _ => ⟨hB'.trans (b2.mono hB'.size), j, _, m, lo, B, hj0, hj, hBW, k3, hkid, left_later hl' (left_lt hl') b2, hdr, hR⟩, fun h => by cases h⟩
end
end Go.Proofs.Ytbmohenjphmlgaa

/- The walks of Root, Prove, Verify that are refused (of the program). -/
namespace Go.Proofs.Ytbmohenjphmlgaa
open Go.RowKit
set_option maxRecDepth 100000

theorem root_fault {a : Option Addr} {n cap : Nat} {w : World} {N : Nat} (hN : N ≠ 0) (h : Calls Try.prog 72 #[.slice a n cap, .string ⟨#[]⟩] w fun e w' => e = .returned (.int .i64 N) ∧ Below w.heap.size w w') :
    Calls Try.prog 24 #[.slice a n cap] w fun e w' => e = .returned (.tuple #[.string ⟨#[]⟩, .int .i64 N]) ∧ Below w.heap.size w w' := by
  have H1 : Calls Try.prog 53 #[.slice a n cap] w fun e w' => e = .returned (.tuple #[.string ⟨#[]⟩, .int .i64 N]) ∧ Below w.heap.size w w' := by
    have H := hid h
    have hN' : ¬ (N : Int) = 0 := by omega
    clear h hN
    go_enter Try.func53, Try.ntmps53
    go_wp2_with fail
    refine H.out.mono ?_
    rintro e w1 ⟨rfl, b1⟩
    have HB := hid b1
    clear b1
    go_wp2_with fail
    go_ret2
    exact ⟨rfl, HB.out⟩
  have H := hid H1
  clear h H1
  go_enter Try.func24, Try.ntmps24
  go_wp2_with fail
  refine H.out.mono ?_
  rintro e w1 ⟨rfl, b1⟩
  have HB := hid b1
  clear b1
  go_wp2_with fail
  go_ret2
  exact ⟨rfl, HB.out⟩

theorem prove_fault {a : Option Addr} {n cap : Nat} {key : ByteArray} {w : World} {N : Nat} (hN : N ≠ 0) (h : Calls Try.prog 72 #[.slice a n cap, .string key] w fun e w' => e = .returned (.int .i64 N) ∧ Below w.heap.size w w') :
    Calls Try.prog 27 #[.slice a n cap, .string key] w fun e w' => e = .returned (.tuple #[.slice none 0 0, .int .i64 N]) ∧ Below w.heap.size w w' := by
  have H1 : Calls Try.prog 57 #[.slice a n cap, .string key] w fun e w' => e = .returned (.tuple #[.slice none 0 0, .int .i64 N]) ∧ Below w.heap.size w w' := by
    have H := hid h
    have hN' : ¬ (N : Int) = 0 := by omega
    clear h hN
    go_enter Try.func57, Try.ntmps57
    go_wp2_with fail
    refine H.out.mono ?_
    rintro e w1 ⟨rfl, b1⟩
    have HB := hid b1
    clear b1
    go_wp2_with fail
    go_ret2
    exact ⟨rfl, HB.out⟩
  have H := hid H1
  clear h H1
  go_enter Try.func27, Try.ntmps27
  go_wp2_with fail
  refine H.out.mono ?_
  rintro e w1 ⟨rfl, b1⟩
  have HB := hid b1
  clear b1
  go_wp2_with fail
  go_ret2
  exact ⟨rfl, HB.out⟩

/-- Verify hands on what check tells. -/
theorem verify_out {root key : ByteArray} {v : Value} {w : World} {Q : ByteArray → Int → World → Prop} (h : Calls Try.prog 80 #[.string root, .string key, v] w fun e w' => ∃ a n cap s m, e = .returned (.tuple #[.slice a n cap, .string s, .int .i64 m]) ∧ Q s m w') :
    Calls Try.prog 32 #[.string root, .string key, v] w fun e w' => ∃ s m, e = .returned (.tuple #[.string s, .bool (!(s.toList == [])), .int .i64 m]) ∧ Q s m w' := by
  have H1 : Calls Try.prog 61 #[.string root, .string key, v] w fun e w' => ∃ s m, e = .returned (.tuple #[.string s, .bool (!(s.toList == [])), .int .i64 m]) ∧ Q s m w' := by
    have H := hid h
    clear h
    go_enter Try.func61, Try.ntmps61
    go_wp2_with fail
    refine H.out.mono ?_
    rintro e w1 ⟨a, n, cap, s, m, rfl, q⟩
    have HQ := hid q
    clear q
    go_wp2_with fail
    refine bodyPost_ret (v := .tuple #[.string s, .bool (!(s.toList == [])), .int .i64 m]) (by simp [results, Try.results61, go_sem]) rfl ?_
    exact ⟨s, m, rfl, HQ.out⟩
  have H := hid H1
  clear h H1
  go_enter Try.func32, Try.ntmps32
  go_wp2_with fail
  refine H.out.mono ?_
  rintro e w1 ⟨s, m, rfl, q⟩
  have HQ := hid q
  clear q
  go_wp2_with fail
  refine bodyPost_ret (v := .tuple #[.string s, .bool (!(s.toList == [])), .int .i64 m]) (by simp [results, Try.results32, go_sem]) rfl ?_
  exact ⟨s, m, rfl, HQ.out⟩

theorem check_fault {root key : ByteArray} {v : Value} {w : World} {N : Nat} (hN : N ≠ 0) (h : Calls Try.prog 103 #[.string root, .string key, v] w fun e w' => e = .returned (.int .i64 N) ∧ w' = w) :
    Calls Try.prog 80 #[.string root, .string key, v] w fun e w' => e = .returned (.tuple #[.slice none 0 0, .string ⟨#[]⟩, .int .i64 N]) ∧ Below w.heap.size w w' := by
  have H := hid h
  have hN' : ¬ (N : Int) = 0 := by omega
  clear h hN
  go_enter Try.func80, Try.ntmps80
  go_wp2_with fail
  refine H.out.mono ?_
  rintro e w1 ⟨rfl, hw⟩
  obtain rfl := hw.symm
  go_wp2_with fail
  refine bodyPost_ret (v := .tuple #[.slice none 0 0, .string ⟨#[]⟩, .int .i64 N]) (by simp [results, Try.results80, go_sem]) rfl ?_
  exact ⟨rfl, Below.refl _ _⟩

theorem verify_fault {root key : ByteArray} {v : Value} {w : World} {N : Nat} (hN : N ≠ 0) (h : Calls Try.prog 103 #[.string root, .string key, v] w fun e w' => e = .returned (.int .i64 N) ∧ w' = w) :
    Calls Try.prog 32 #[.string root, .string key, v] w fun e w' => ∃ s b, e = .returned (.tuple #[.string s, .bool b, .int .i64 N]) ∧ Below w.heap.size w w' := by
  refine (verify_out (Q := fun s m w' => m = N ∧ Below w.heap.size w w') ((check_fault hN h).mono ?_)).mono ?_
  · rintro e w' ⟨rfl, hb⟩; exact ⟨_, _, _, _, _, rfl, rfl, hb⟩
  · rintro e w' ⟨s, m, rfl, rfl, hb⟩; exact ⟨s, _, rfl, hb⟩

end Go.Proofs.Ytbmohenjphmlgaa

/- The walks of check and Verify (of the program): Verify answers as the document says. -/
namespace Go.Proofs.Ytbmohenjphmlgaa
open Go.RowKit
set_option maxRecDepth 100000

/-- What check tells. -/
def CkOk (root key : ByteArray) (p : List ByteArray) (w : World) (e : Ending) (w' : World) : Prop :=
  ∃ (r : Value) (s : ByteArray) (N : Nat), e = .returned (.tuple #[r, .string s, .int .i64 (N : Int)]) ∧ Below w.heap.size w w' ∧ Tr.verify root.data.toList key.data.toList (bl p) = (s.data.toList, !s.data.toList.isEmpty, N) ∧
    (N ≠ 0 → r = .slice none 0 0) ∧ (N = 0 → ∃ vs, NOwn w' w.heap.size r vs ∧ NodesOf r.ownBlock w'.heap.size w' vs p)

theorem pfault_verify {root key : ByteArray} {p : List ByteArray} (h : pfault root key p ≠ 0) : Tr.verify root.data.toList key.data.toList (bl p) = ([], false, pfault root key p) := by
  unfold Tr.verify pfault at *
  rw [ba_len, ba_len, bl_len]
  by_cases h1 : root.size ≠ 8
  · rw [if_pos h1, if_pos h1]
  · rw [if_neg h1] at h
    rw [if_neg h1, if_neg h1]
    by_cases h2 : 6 < key.size
    · rw [if_pos h2, if_pos h2]
    · rw [if_neg h2] at h
      rw [if_neg h2, if_neg h2]
      by_cases h3 : 20 < p.length
      · rw [if_pos (.inl h3), if_pos h3]
      · rw [if_neg h3] at h
        rw [if_neg h3]
        by_cases h4 : ∃ s ∈ p, 1000 < s.size
        · rw [if_pos h4, if_pos]
          right
          obtain ⟨s, hs, hl⟩ := h4
          exact ⟨s.data.toList, List.mem_map.2 ⟨s, hs, rfl⟩, by rw [ba_len]; exact hl⟩
        · rw [if_neg h4] at h
          exact absurd rfl h

theorem pfault_none {root key : ByteArray} {p : List ByteArray} (h : pfault root key p = 0) : root.size = 8 ∧ key.size ≤ 6 ∧ p.length ≤ 20 ∧ ∀ s ∈ p, s.size ≤ 1000 := by
  unfold pfault at h
  split at h
  · cases h
  · split at h
    · cases h
    · split at h
      · cases h
      · split at h
        · cases h
        · rename_i h1 h2 h3 h4
          exact ⟨by omega, by omega, by omega, fun s hs => Nat.le_of_not_lt fun hl => h4 ⟨s, hs, hl⟩⟩

theorem verify_run {root key : ByteArray} {p : List ByteArray} (h : pfault root key p = 0) : Tr.verify root.data.toList key.data.toList (bl p) = Tr.verEnd (Tr.vloop 0 ⟨Tr.digits key.data.toList, false, [], false, root.data.toList⟩ (bl p)) := by
  obtain ⟨h1, h2, h3, h4⟩ := pfault_none h
  refine Tr.verify_ok (by rw [ba_len]; exact h1) (by rw [ba_len]; exact h2) (by rw [bl_len]; exact h3) ?_
  intro s hs
  obtain ⟨x, hx, rfl⟩ := List.mem_map.1 hs
  rw [ba_len]
  exact h4 x hx

/-- The first node of the way. -/
theorem root_check {W : World} {a : Option Addr} {vs : List Value} {p : List ByteArray} {g : Option Nat} (hrd : NRd W.heap.size W a vs) (hno : NodesOf g W.heap.size W vs p) (hsz : ∀ s ∈ p, s.size ≤ 1000) {root d : ByteArray} (hr : root.size = 8) (hd : ∀ c ∈ d.data.toList, c.toNat < 16) {w : World} (hB : Below W.heap.size W w) (hl : LeftAt w W.heap.size a p.length 0) :
    Calls Try.prog 105 #[.agg #[.string root, .nilIface], .pointer (some ⟨W.heap.size, 0, none⟩)] w fun e w' => ∃ v' ok, e = .returned (.tuple #[v', .bool ok]) ∧ (ok = true → VJ W a p (Tr.vloop 0 ⟨d.data.toList, false, [], false, root.data.toList⟩ (bl p)) w' v' d) ∧ (ok = false → VQ W a p (Tr.vloop 0 ⟨d.data.toList, false, [], false, root.data.toList⟩ (bl p)) ⟨#[]⟩ false w') := by
  have hrl : root.data.toList.length = 8 := by rw [ba_len]; exact hr
  have hne : root.data.toList ≠ [] := fun e => by rw [e] at hrl; simp at hrl
  refine (check1_any hrd hno hsz root .nilIface (.inl rfl) w hB 0 (Nat.zero_le _) hl).mono ?_
  rintro e w2 ⟨v2, ok, rfl, hB2, g1, g2⟩
  rw [← Tr.fin_zero]
  refine ⟨v2, ok, rfl, fun h => ?_, fun h => ?_⟩
  · subst h
    obtain ⟨hjl, hv2, hsum, hl2⟩ := g1 rfl
    obtain ⟨v', t', lo', B', m', e1, e2, e3, _, e4⟩ := hno.2 0 hjl
    rw [hv2] at e1
    cases e1
    obtain ⟨hsm, henc, hsd⟩ := reads_small (hsz _ (List.getElem_mem hjl)) e2
    refine ⟨hB2, 1, t', m', lo', B', by omega, hjl, e3, e4, hsm, hl2, hd, ?_⟩
    rw [Tr.fin_next _ (by rw [bl_len]; exact hjl), bl_at _ _ hjl, Tr.vstep_reads, e2]
    congr 1
    rw [if_neg]
    simp only [Bool.or_eq_true, decide_eq_true_eq, bne_iff_ne, ne_eq, Bool.and_eq_true]
    rintro ((h | h) | h)
    · exact hne h
    · exact h hsum
    · omega
  · subst h
    obtain ⟨hl2, hw⟩ := g2 rfl
    refine ⟨hB2, 0, Nat.zero_le _, hl2, (fun h => by cases h), fun _ => ?_⟩
    rcases hw with h0 | ⟨hjl, hw⟩
    · rw [Tr.fin_out (by rw [bl_len]; omega)]
      exact Tr.verEnd_need hne
    · rw [Tr.fin_next _ (by rw [bl_len]; exact hjl), bl_at _ _ hjl, Tr.vstep_b hw]
      rfl

set_option maxHeartbeats 3200000 in
theorem check_run (root key : ByteArray) (a : Option Addr) (cap : Nat) (p : List ByteArray) (w : World) (hr : SRd w.heap.size w a p) (hf : pfault root key p = 0) :
    Calls Try.prog 80 #[.string root, .string key, .slice a p.length cap] w (CkOk root key p w) := by
  have hpf := proofFault_any root key a cap p w hr
  rw [hf] at hpf
  have HPF := hid hpf
  obtain ⟨h1, h2, h3, h4⟩ := pfault_none hf
  have HVR := hid (verify_run hf)
  have HRA := hid (readAll_any a cap p w hr (by omega) h4)
  have HDG := hid (fun w => digitsOf_any key w (by omega))
  have HDL := hid (Tr.digits_lt key.data.toList)
  have HS := hid (And.intro h1 h4)
  clear hpf hf h1 h2 h3 h4 hr
  go_enter Try.func80, Try.ntmps80
  go_wp2_with fail
  refine HPF.out.mono ?_
  rintro e w0 ⟨rfl, hw⟩
  obtain rfl := hw.symm
  clear hw
  go_wp2_with fail
  refine HRA.out.mono ?_
  rintro e w1 ⟨r, ok, rfl, b1, g1, g2⟩
  cases ok with
  | false =>
    obtain ⟨rfl, s, hs, hn⟩ := g1 rfl
    have HUN : Hid (Tr.vloop 0 ⟨Tr.digits key.data.toList, false, [], false, root.data.toList⟩ (bl p) = none) := Tr.vloop_unread _ _ _ ⟨_, List.mem_map.2 ⟨s, hs, rfl⟩, hn⟩
    have HB := hid b1
    clear g1 g2 b1 hs hn
    go_wp2_with fail
    exact bodyPost_ret (v := .tuple #[.slice none 0 0, .string ⟨#[]⟩, .int .i64 6]) (by simp [results, Try.results80, go_sem]) rfl ⟨_, _, 6, rfl, HB.out, by rw [HVR.out, HUN.out]; rfl, fun _ => rfl, fun h => by cases h⟩
  | true =>
    obtain ⟨vs, ho, hno⟩ := g2 rfl
    obtain ⟨a1, c1, rfl, hc1⟩ := nown_shape ho
    have HO := hid ho
    have HNO := hid hno
    have HLEN : Hid (vs.length = p.length) := hno.1
    have HC1 := hid hc1
    have HB1 := hid b1
    clear g1 g2 ho hno b1 hc1
    rw [HLEN.out]
    go_wp2_with fail
    have HBA : Hid (Below w1.heap.size w1 (w1.alloc (.cells #[.slice a1 p.length c1] 118))) := (Below.refl _ _).alloc (Nat.le_refl _) _
    have HLA : Hid (LeftAt (w1.alloc (.cells #[.slice a1 p.length c1] 118)) w1.heap.size a1 p.length 0) := ⟨a1, c1, heap_alloc_new w1 _, by have := HC1.out; rw [HLEN.out] at this; omega, fun b off h _ => h⟩
    refine (HDG.out _).mono ?_
    rintro e w2 ⟨rfl, b2⟩
    have HB2 : Hid (Below w1.heap.size w1 w2) := HBA.out.trans (b2.mono HBA.out.size)
    have HL2 := hid (left_later HLA.out (left_lt HLA.out) b2)
    clear b2
    go_wp2_with fail
    obtain ⟨R, hR⟩ : ∃ R, R = Tr.vloop 0 ⟨Tr.digits key.data.toList, false, [], false, root.data.toList⟩ (bl p) := ⟨_, rfl⟩
    refine (walk_any 105 enters_check ⟨w1.heap.size, 0, none⟩ root .nilIface (.inl rfl) ⟨(Tr.digits key.data.toList).toArray⟩ w2 (VJ w1 a1 p R) (VQ w1 a1 p R) ?_ (fun w v d h => way_verify (nown_rd HO.out) HNO.out HS.out.2 R w v d h)).mono ?_
    · intro w3 b3
      rw [hR]
      have hb := HB2.out.trans (b3.mono HB2.out.size)
      exact root_check (nown_rd HO.out) HNO.out HS.out.2 HS.out.1 HDL.out hb (left_later HL2.out (left_lt HL2.out) b3)
    rintro e w4 ⟨x, ok, rfl, q⟩
    obtain ⟨hb4, j, hj, hl4, q1, q2⟩ := q
    rw [← hR] at HVR
    have HQ1 := hid q1
    have HQ2 := hid q2
    have HB4 := hid hb4
    have HB5 : Hid (Below w.heap.size w w4) := HB1.out.trans (hb4.mono HB1.out.size)
    obtain ⟨a4, c4, hc4, _, _⟩ := hl4
    have z0 := (cell_of_row _ _ 0 _ _ _ hc4).trans rfl
    clear hR hb4 q1 q2 hc4 HL2 HB2 HLA HBA
    cases ok with
    | false =>
      have HE := hid (HQ2.out rfl)
      clear HQ1 HQ2
      go_wp2_with fail
      exact bodyPost_ret (v := .tuple #[.slice none 0 0, .string ⟨#[]⟩, .int .i64 6]) (by simp [results, Try.results80, go_sem]) rfl ⟨_, _, 6, rfl, HB5.out, by rw [HVR.out, HE.out]; rfl, fun _ => rfl, fun h => by cases h⟩
    | true =>
      have HE := hid (HQ1.out rfl)
      clear HQ1 HQ2
      by_cases hjn : p.length ≤ j
      · have hk : p.length - j = 0 := by omega
        rw [if_pos hjn] at HE
        rw [hk] at z0
        clear hk hj
        go_wp2_with fail
        exact bodyPost_ret (v := .tuple #[.slice a1 p.length c1, .string x, .int .i64 0]) (by simp [results, Try.results80, go_sem]) rfl ⟨_, _, 0, rfl, HB5.out, by rw [HVR.out, HE.out], (fun h => absurd rfl h), fun _ => ⟨vs, by
          have h1 := nown_later HO.out HB4.out
          rw [HLEN.out] at h1
          exact h1, by
          have h2 := nodes_wider (nodes_later HNO.out HB4.out) HB4.out.size
          rw [HLEN.out] at h2
          exact h2⟩⟩
      · obtain ⟨k, hk⟩ : ∃ k, p.length - j = k + 1 := ⟨p.length - j - 1, by omega⟩
        rw [if_neg hjn] at HE
        rw [hk] at z0
        have i0 : (0 : Int) < (k : Int) + 1 := by omega
        clear hk hj hjn
        go_wp2_with fail
        exact bodyPost_ret (v := .tuple #[.slice none 0 0, .string ⟨#[]⟩, .int .i64 6]) (by simp [results, Try.results80, go_sem]) rfl ⟨_, _, 6, rfl, HB5.out, by rw [HVR.out, HE.out]; rfl, fun _ => rfl, fun h => by cases h⟩

theorem check_any (root key : ByteArray) (a : Option Addr) (cap : Nat) (p : List ByteArray) (w : World) (hr : SRd w.heap.size w a p) :
    Calls Try.prog 80 #[.string root, .string key, .slice a p.length cap] w (CkOk root key p w) := by
  by_cases hf : pfault root key p = 0
  · exact check_run root key a cap p w hr hf
  · refine (check_fault hf (proofFault_any root key a cap p w hr)).mono ?_
    rintro e w' ⟨rfl, b⟩
    exact ⟨_, _, _, rfl, b, pfault_verify hf, fun _ => rfl, fun h => absurd h hf⟩

/-- Verify answers as the document says. -/
theorem verify_any (root key : ByteArray) (a : Option Addr) (cap : Nat) (p : List ByteArray) (w : World) (hr : SRd w.heap.size w a p) :
    Calls Try.prog 32 #[.string root, .string key, .slice a p.length cap] w fun e w' => e = .returned (.tuple #[.string ⟨(Tr.verify root.data.toList key.data.toList (bl p)).1.toArray⟩, .bool (Tr.verify root.data.toList key.data.toList (bl p)).2.1, .int .i64 ((Tr.verify root.data.toList key.data.toList (bl p)).2.2 : Nat)]) ∧ Below w.heap.size w w' := by
  refine (verify_out (Q := fun s m w' => ∃ N : Nat, m = N ∧ Below w.heap.size w w' ∧ Tr.verify root.data.toList key.data.toList (bl p) = (s.data.toList, !s.data.toList.isEmpty, N)) ((check_any root key a cap p w hr).mono ?_)).mono ?_
  · rintro e w' ⟨r, s, N, rfl, b, hv, h0, h1⟩
    by_cases hN : N = 0
    · obtain ⟨vs, ho, _⟩ := h1 hN
      obtain ⟨a1, c1, rfl, _⟩ := nown_shape ho
      exact ⟨_, _, _, _, _, rfl, N, rfl, b, hv⟩
    · obtain rfl := h0 hN
      exact ⟨_, _, _, _, _, rfl, N, rfl, b, hv⟩
  · rintro e w' ⟨s, m, rfl, N, rfl, b, hv⟩
    refine ⟨?_, b⟩
    rw [hv]
    have e1 : (s.toList == []) = s.data.toList.isEmpty := by
      rw [ByteArray.toList_eq]
      cases s.data.toList <;> rfl
    rw [e1]
end Go.Proofs.Ytbmohenjphmlgaa

/- The walk of the statement Verifies. -/
namespace Go.Proofs.Ytbmohenjphmlgaa
open Go.RowKit
set_option maxRecDepth 100000


theorem handT_rd {w : World} {g : Nat} {l : List ByteArray} (h : w.heap[g]? = some (.cells (handT l).toArray 9 (0, 0))) : SRd w.heap.size w (some ⟨g, 0, none⟩) l := by
  intro i hi
  refine ⟨g, 0, rfl, (Array.getElem?_eq_some_iff.1 h).1, ?_⟩
  rw [Nat.zero_add, list_getD_cell h, handT_text l i hi]

set_option maxHeartbeats 3200000 in
theorem verifies_any (root key : ByteArray) (a : Option Addr) (cap : Nat) (l : List ByteArray) (w : World) (hr : SRd w.heap.size w a l) (hn : a = none → l.length = 0) (hl : l.length ≤ 8796093022208) :
    Calls Try.prog 7 #[.string root, .string key, .slice a l.length cap] w fun e w' => e = .returned (.bool true) ∧ Below w.heap.size w w' := by
  have HH := hid (handedTexts_any a cap l w hr hn (by omega))
  have HV := hid (fun a cap w h => verify_any root key a cap l w h)
  have HU := hid (fun g w h1 h2 => untouchedTexts_any g a cap l w h1 h2 (by omega))
  have HRV := hid (fun w h => refVerify_any w root key a cap l h hl)
  have HR := hid hr
  have HNU := hid num_any
  clear hr hn
  go_enter Try.func7, Try.ntmps7
  go_wp2_with fail
  refine HH.out.mono ?_
  rintro e w1 ⟨rfl, hg1, b1⟩
  have HG1 := hid hg1
  have HB1 := hid b1
  clear hg1 b1 HH
  obtain ⟨V, f, N, hT⟩ : ∃ V f N, Tr.verify root.data.toList key.data.toList (bl l) = (V, f, N) := ⟨_, _, _, rfl⟩
  rw [hT] at HV
  have HT := hid hT
  clear hT
  go_wp2_with fail
  refine (HV.out _ _ _ (handT_rd HG1.out)).mono ?_
  rintro e w2 ⟨rfl, b2⟩
  have hg : w.heap.size < w1.heap.size := (Array.getElem?_eq_some_iff.1 HG1.out).1
  have HG2 := hid ((b2.block _ hg).trans HG1.out)
  have HB2 : Hid (Below w.heap.size w w2) := HB1.out.trans (b2.mono HB1.out.size)
  clear b2
  go_wp2_with fail
  refine (HU.out _ _ HG2.out (HR.out.later HB2.out)).mono ?_
  rintro e w3 ⟨rfl, o3⟩
  have HB3 : Hid (Below w.heap.size w w3) := HB2.out.trans (o3.below HB2.out.size)
  clear o3
  go_wp2_with fail
  refine (HRV.out _ ((HR.out.later HB3.out).wider HB3.out.size)).mono ?_
  rintro e w4 ⟨he, b4⟩
  have hTT : Tr.verify root.data.toList key.data.toList (l.map fun s => s.data.toList) = (V, f, N) := HT.out
  rw [hTT] at he
  subst he
  have HB4 : Hid (Below w.heap.size w w4) := HB3.out.trans (b4.mono HB3.out.size)
  clear b4 hTT
  cases f with
  | true =>
    go_wp2_with fail
    refine (HNU.out _ _).mono ?_
    rintro e w5 ⟨rfl, hw⟩
    obtain rfl := hw.symm
    clear hw
    go_wp2_with fail
    go_ret
    exact ⟨rfl, HB4.out⟩
  | false =>
    go_wp2_with fail
    refine (HNU.out _ _).mono ?_
    rintro e w5 ⟨rfl, hw⟩
    obtain rfl := hw.symm
    clear hw
    go_wp2_with fail
    go_ret
    exact ⟨rfl, HB4.out⟩
end Go.Proofs.Ytbmohenjphmlgaa

/- A row of texts that was handed in, opened; it is no longer than its bulk. -/
namespace Go.Proofs.Ytbmohenjphmlgaa
open Go.RowKit
open Go.ChangeShapes Go.WideShapes Go.ChangeAt Go.Joins
set_option maxRecDepth 100000

theorem cellsText : Try.prog.cellsOf 9 = 1 := by kernel_rfl

theorem spot_plain {W : World} {a : Addr} {c : Value} (h : W.cell? a = some c) : a.spot = none := World.cell?_spot h

theorem bulk_texts {Hd : Type} : ∀ l : List ByteArray, l.length ≤ Rows.uptoBulkAll (strs (H := Hd) l) := by
  intro l
  induction l with
  | nil => simp
  | cons x l ih =>
    simp only [strs, List.map_cons, Rows.uptoBulkAll, Rows.uptoBulk, List.length_cons]
    simp only [strs] at ih
    omega

theorem open_texts {Hd : Type} {enc : TypeId × Value → Hd} {W : World} {r : Reach} {b0 : Nat} {sp : Nat → Bool} {v : Value} {d : DataW Hd} {ps : List MemPlace} (hval : Value.okWide Try.prog W r b0 34 v)
    (hd : DataW.Trod enc Try.prog W 0 sp true 34 v d ps) : ∃ a cap ss, v = .slice a ss.length cap ∧ SRd W.heap.size W a ss ∧ (a = none → ss.length = 0) ∧ ss.length ≤ Rows.uptoBulk d ∧ (ss = [] ∨ ∃ e s, d = .slice e s ∧ e.length = ss.length) := by
  obtain ⟨a0, len, cap, rfl⟩ := okWide_slice Try.underlying34 hval
  obtain ⟨fuel, hf⟩ := hd
  rcases open_strings Try.underlying34 Try.underlying9 cellsText hf with ⟨hcs, hx⟩ | ⟨a, len', cap', ss, hcs, _, hl, hm, hz, hx, hcell, hsz⟩
  · simp [Value.cells] at hcs
    obtain ⟨rfl, rfl, rfl⟩ := hcs
    exact ⟨none, 0, [], rfl, fun i h => (by simp at h), fun _ => rfl, Nat.zero_le _, .inl rfl⟩
  · simp [Value.cells] at hcs
    obtain ⟨rfl, rfl, rfl⟩ := hcs
    have hlen : len ≤ ss.length := by rw [hz]; split <;> omega
    have hlt : (ss.take len).length = len := by simp; omega
    refine ⟨some a, cap, ss.take len, by rw [hlt], ?_, (fun h => by cases h), ?_, .inr ⟨_, _, congrArg Prod.fst hx, by simp [strs]⟩⟩
    · intro i hi
      have hi' : i < len := by omega
      have hc := hcell i (by omega)
      have hsp := spot_plain (hcell 0 (by omega))
      obtain ⟨ab, ao, asp⟩ := a
      simp [Addr.add] at hsp
      subst hsp
      rw [Go.WideShapes.add_plain] at hc
      refine ⟨ab, ao, rfl, World.block_lt_of_cell? W _ hc, ?_⟩
      rw [hc, List.getElem_take]
      simp [List.getD_eq_getElem?_getD, List.getElem?_eq_getElem (show i < ss.length by omega)]
    · have h1 : d = .slice (strs (ss.take len)) (strs (ss.drop len)) := congrArg Prod.fst hx
      subst h1
      simp only [Rows.uptoBulk]
      have h3 := bulk_texts (Hd := Hd) (ss.take len)
      omega
end Go.Proofs.Ytbmohenjphmlgaa
