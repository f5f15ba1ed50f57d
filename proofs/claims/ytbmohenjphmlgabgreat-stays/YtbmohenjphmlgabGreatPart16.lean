/- Part 16 of a proof: what the last text needs. -/
import Derived.Test.YtbmohenjphmlgabGreatPart14
import Derived.Test.YtbmohenjphmlgabGreatPart15
import Derived.Test.YtbmohenjphmlgabGreatPart13
import Derived.Test.YtbmohenjphmlgabGreatPart10
import Derived.Test.YtbmohenjphmlgabGreatPart5
import Derived.Test.YtbmohenjphmlgabGreatPart9
import Derived.Maps.OwnOps
import Derived.Maps.OwnSet
import Derived.Deep.RegionHeld3
/- The walks of Root, Prove, Verify that are refused (of the program). -/
namespace Go.Proofs.YtbmohenjphmlgabGreat
open Go.RowKit
set_option maxRecDepth 100000

theorem root_fault {a : Option Addr} {n cap : Nat} {w : World} {N : Nat} (hN : N ≠ 0) (h : Calls Tryz.prog 39 #[.slice a n cap, .string ⟨#[]⟩] w fun e w' => e = .returned (.int .i64 N) ∧ Below w.heap.size w w') :
    Calls Tryz.prog 7 #[.slice a n cap] w fun e w' => e = .returned (.tuple #[.string ⟨#[]⟩, .int .i64 N]) ∧ Below w.heap.size w w' := by
  have H1 : Calls Tryz.prog 25 #[.slice a n cap] w fun e w' => e = .returned (.tuple #[.string ⟨#[]⟩, .int .i64 N]) ∧ Below w.heap.size w w' := by
    have H := hid h
    have hN' : ¬ (N : Int) = 0 := by omega
    clear h hN
    go_enter Tryz.func25, Tryz.ntmps25
    go_wp2_with fail
    refine H.out.mono ?_
    rintro e w1 ⟨rfl, b1⟩
    have HB := hid b1
    clear b1
    go_wp2_with fail
    go_ret2
    exact ⟨rfl, HB.out⟩
  have H := hid H1
  clear h H1
  go_enter Tryz.func7, Tryz.ntmps7
  go_wp2_with fail
  refine H.out.mono ?_
  rintro e w1 ⟨rfl, b1⟩
  have HB := hid b1
  clear b1
  go_wp2_with fail
  go_ret2
  exact ⟨rfl, HB.out⟩

theorem prove_fault {a : Option Addr} {n cap : Nat} {key : ByteArray} {w : World} {N : Nat} (hN : N ≠ 0) (h : Calls Tryz.prog 39 #[.slice a n cap, .string key] w fun e w' => e = .returned (.int .i64 N) ∧ Below w.heap.size w w') :
    Calls Tryz.prog 13 #[.slice a n cap, .string key] w fun e w' => e = .returned (.tuple #[.slice none 0 0, .int .i64 N]) ∧ Below w.heap.size w w' := by
  have H1 : Calls Tryz.prog 30 #[.slice a n cap, .string key] w fun e w' => e = .returned (.tuple #[.slice none 0 0, .int .i64 N]) ∧ Below w.heap.size w w' := by
    have H := hid h
    have hN' : ¬ (N : Int) = 0 := by omega
    clear h hN
    go_enter Tryz.func30, Tryz.ntmps30
    go_wp2_with fail
    refine H.out.mono ?_
    rintro e w1 ⟨rfl, b1⟩
    have HB := hid b1
    clear b1
    go_wp2_with fail
    go_ret2
    exact ⟨rfl, HB.out⟩
  have H := hid H1
  clear h H1
  go_enter Tryz.func13, Tryz.ntmps13
  go_wp2_with fail
  refine H.out.mono ?_
  rintro e w1 ⟨rfl, b1⟩
  have HB := hid b1
  clear b1
  go_wp2_with fail
  go_ret2
  exact ⟨rfl, HB.out⟩

/-- Verify hands on what check tells. -/
theorem verify_out {root key : ByteArray} {v : Value} {w : World} {Q : ByteArray → Int → World → Prop} (h : Calls Tryz.prog 59 #[.string root, .string key, v] w fun e w' => ∃ a n cap s m, e = .returned (.tuple #[.slice a n cap, .string s, .int .i64 m]) ∧ Q s m w') :
    Calls Tryz.prog 21 #[.string root, .string key, v] w fun e w' => ∃ s m, e = .returned (.tuple #[.string s, .bool (!(s.toList == [])), .int .i64 m]) ∧ Q s m w' := by
  have H1 : Calls Tryz.prog 37 #[.string root, .string key, v] w fun e w' => ∃ s m, e = .returned (.tuple #[.string s, .bool (!(s.toList == [])), .int .i64 m]) ∧ Q s m w' := by
    have H := hid h
    clear h
    go_enter Tryz.func37, Tryz.ntmps37
    go_wp2_with fail
    refine H.out.mono ?_
    rintro e w1 ⟨a, n, cap, s, m, rfl, q⟩
    have HQ := hid q
    clear q
    go_wp2_with fail
    refine bodyPost_ret (v := .tuple #[.string s, .bool (!(s.toList == [])), .int .i64 m]) (by simp [results, Tryz.results37, go_sem]) rfl ?_
    exact ⟨s, m, rfl, HQ.out⟩
  have H := hid H1
  clear h H1
  go_enter Tryz.func21, Tryz.ntmps21
  go_wp2_with fail
  refine H.out.mono ?_
  rintro e w1 ⟨s, m, rfl, q⟩
  have HQ := hid q
  clear q
  go_wp2_with fail
  refine bodyPost_ret (v := .tuple #[.string s, .bool (!(s.toList == [])), .int .i64 m]) (by simp [results, Tryz.results21, go_sem]) rfl ?_
  exact ⟨s, m, rfl, HQ.out⟩

theorem check_fault {root key : ByteArray} {v : Value} {w : World} {N : Nat} (hN : N ≠ 0) (h : Calls Tryz.prog 85 #[.string root, .string key, v] w fun e w' => e = .returned (.int .i64 N) ∧ w' = w) :
    Calls Tryz.prog 59 #[.string root, .string key, v] w fun e w' => e = .returned (.tuple #[.slice none 0 0, .string ⟨#[]⟩, .int .i64 N]) ∧ Below w.heap.size w w' := by
  have H := hid h
  have hN' : ¬ (N : Int) = 0 := by omega
  clear h hN
  go_enter Tryz.func59, Tryz.ntmps59
  go_wp2_with fail
  refine H.out.mono ?_
  rintro e w1 ⟨rfl, hw⟩
  obtain rfl := hw.symm
  go_wp2_with fail
  refine bodyPost_ret (v := .tuple #[.slice none 0 0, .string ⟨#[]⟩, .int .i64 N]) (by simp [results, Tryz.results59, go_sem]) rfl ?_
  exact ⟨rfl, Below.refl _ _⟩

theorem verify_fault {root key : ByteArray} {v : Value} {w : World} {N : Nat} (hN : N ≠ 0) (h : Calls Tryz.prog 85 #[.string root, .string key, v] w fun e w' => e = .returned (.int .i64 N) ∧ w' = w) :
    Calls Tryz.prog 21 #[.string root, .string key, v] w fun e w' => ∃ s b, e = .returned (.tuple #[.string s, .bool b, .int .i64 N]) ∧ Below w.heap.size w w' := by
  refine (verify_out (Q := fun s m w' => m = N ∧ Below w.heap.size w w') ((check_fault hN h).mono ?_)).mono ?_
  · rintro e w' ⟨rfl, hb⟩; exact ⟨_, _, _, _, _, rfl, rfl, hb⟩
  · rintro e w' ⟨s, m, rfl, rfl, hb⟩; exact ⟨s, _, rfl, hb⟩

end Go.Proofs.YtbmohenjphmlgabGreat

/- The walks of check and Verify (of the program): Verify answers as the document says. -/
namespace Go.Proofs.YtbmohenjphmlgabGreat
open Go.RowKit
set_option maxRecDepth 100000

/-- What check tells. -/
def CkOk (root key : ByteArray) (p : List ByteArray) (w : World) (e : Ending) (w' : World) : Prop :=
  ∃ (r : Value) (s : ByteArray) (N : Nat), e = .returned (.tuple #[r, .string s, .int .i64 (N : Int)]) ∧ Below w.heap.size w w' ∧ Tr.verify root.data.toList key.data.toList (bl p) = (s.data.toList, !s.data.toList.isEmpty, N) ∧
    (N ≠ 0 → r = .slice none 0 0) ∧ (N = 0 → ∃ vs, NOwn w' w.heap.size r vs ∧ NodesOf w.heap.size r.ownBlock w'.heap.size w' vs p)

theorem pfault_verify {root key : ByteArray} {p : List ByteArray} (h : pfault root key p ≠ 0) : Tr.verify root.data.toList key.data.toList (bl p) = ([], false, pfault root key p) := by
  unfold Tr.verify pfault at *
  rw [ba_len, ba_len, bl_len]
  by_cases h1 : root.size ≠ 8
  · rw [if_pos h1, if_pos h1]
  · rw [if_neg h1] at h
    rw [if_neg h1, if_neg h1]
    by_cases h2 : 6 < key.size
    · rw [if_pos h2, if_pos h2]
    · rw [if_neg h2] at h
      rw [if_neg h2, if_neg h2]
      by_cases h3 : 20 < p.length
      · rw [if_pos (.inl h3), if_pos h3]
      · rw [if_neg h3] at h
        rw [if_neg h3]
        by_cases h4 : ∃ s ∈ p, 1000 < s.size
        · rw [if_pos h4, if_pos]
          right
          obtain ⟨s, hs, hl⟩ := h4
          exact ⟨s.data.toList, List.mem_map.2 ⟨s, hs, rfl⟩, by rw [ba_len]; exact hl⟩
        · rw [if_neg h4] at h
          exact absurd rfl h

theorem pfault_none {root key : ByteArray} {p : List ByteArray} (h : pfault root key p = 0) : root.size = 8 ∧ key.size ≤ 6 ∧ p.length ≤ 20 ∧ ∀ s ∈ p, s.size ≤ 1000 := by
  unfold pfault at h
  split at h
  · cases h
  · split at h
    · cases h
    · split at h
      · cases h
      · split at h
        · cases h
        · rename_i h1 h2 h3 h4
          exact ⟨by omega, by omega, by omega, fun s hs => Nat.le_of_not_lt fun hl => h4 ⟨s, hs, hl⟩⟩

theorem verify_run {root key : ByteArray} {p : List ByteArray} (h : pfault root key p = 0) : Tr.verify root.data.toList key.data.toList (bl p) = Tr.verEnd (Tr.vloop 0 ⟨Tr.digits key.data.toList, false, [], false, root.data.toList⟩ (bl p)) := by
  obtain ⟨h1, h2, h3, h4⟩ := pfault_none h
  refine Tr.verify_ok (by rw [ba_len]; exact h1) (by rw [ba_len]; exact h2) (by rw [bl_len]; exact h3) ?_
  intro s hs
  obtain ⟨x, hx, rfl⟩ := List.mem_map.1 hs
  rw [ba_len]
  exact h4 x hx

/-- The first node of the way. -/
theorem root_check {W : World} {a : Option Addr} {vs : List Value} {p : List ByteArray} {L : Nat} {g : Option Nat} (hrd : NRd W.heap.size W a vs) (hno : NodesOf L g W.heap.size W vs p) (hsz : ∀ s ∈ p, s.size ≤ 1000) {root d : ByteArray} (hr : root.size = 8) (hd : ∀ c ∈ d.data.toList, c.toNat < 16) {w : World} (hB : Below W.heap.size W w) (hl : LeftAt w W.heap.size a p.length 0) :
    Calls Tryz.prog 87 #[.agg #[.string root, .nilIface], .pointer (some ⟨W.heap.size, 0, none⟩)] w fun e w' => ∃ v' ok, e = .returned (.tuple #[v', .bool ok]) ∧ (ok = true → VJ W a p (Tr.vloop 0 ⟨d.data.toList, false, [], false, root.data.toList⟩ (bl p)) w' v' d) ∧ (ok = false → VQ W a p (Tr.vloop 0 ⟨d.data.toList, false, [], false, root.data.toList⟩ (bl p)) ⟨#[]⟩ false w') := by
  have hrl : root.data.toList.length = 8 := by rw [ba_len]; exact hr
  have hne : root.data.toList ≠ [] := fun e => by rw [e] at hrl; simp at hrl
  refine (check1_any hrd hno hsz root .nilIface (.inl rfl) w hB 0 (Nat.zero_le _) hl).mono ?_
  rintro e w2 ⟨v2, ok, rfl, hB2, g1, g2⟩
  rw [← Tr.fin_zero]
  refine ⟨v2, ok, rfl, fun h => ?_, fun h => ?_⟩
  · subst h
    obtain ⟨hjl, hv2, hsum, hl2⟩ := g1 rfl
    obtain ⟨v', t', lo', B', m', e1, e2, e3, _, e4⟩ := hno.2 0 hjl
    rw [hv2] at e1
    cases e1
    obtain ⟨hsm, henc, hsd⟩ := reads_small (hsz _ (List.getElem_mem hjl)) e2
    refine ⟨hB2, 1, t', m', lo', B', by omega, hjl, e3, e4, hsm, hl2, hd, ?_⟩
    rw [Tr.fin_next _ (by rw [bl_len]; exact hjl), bl_at _ _ hjl, Tr.vstep_reads, e2]
    congr 1
    rw [if_neg]
    simp only [Bool.or_eq_true, decide_eq_true_eq, bne_iff_ne, ne_eq, Bool.and_eq_true]
    rintro ((h | h) | h)
    · exact hne h
    · exact h hsum
    · omega
  · subst h
    obtain ⟨hl2, hw⟩ := g2 rfl
    refine ⟨hB2, 0, Nat.zero_le _, hl2, (fun h => by cases h), fun _ => ?_⟩
    rcases hw with h0 | ⟨hjl, hw⟩
    · rw [Tr.fin_out (by rw [bl_len]; omega)]
      exact Tr.verEnd_need hne
    · rw [Tr.fin_next _ (by rw [bl_len]; exact hjl), bl_at _ _ hjl, Tr.vstep_b hw]
      rfl

set_option maxHeartbeats 3200000 in
theorem check_run (root key : ByteArray) (a : Option Addr) (cap : Nat) (p : List ByteArray) (w : World) (hr : SRd w.heap.size w a p) (hf : pfault root key p = 0) :
    Calls Tryz.prog 59 #[.string root, .string key, .slice a p.length cap] w (CkOk root key p w) := by
  have hpf := proofFault_any root key a cap p w hr
  rw [hf] at hpf
  have HPF := hid hpf
  obtain ⟨h1, h2, h3, h4⟩ := pfault_none hf
  have HVR := hid (verify_run hf)
  have HRA := hid (readAll_any a cap p w hr (by omega) h4)
  have HDG := hid (fun w => digitsOf_any key w (by omega))
  have HDL := hid (Tr.digits_lt key.data.toList)
  have HS := hid (And.intro h1 h4)
  clear hpf hf h1 h2 h3 h4 hr
  go_enter Tryz.func59, Tryz.ntmps59
  go_wp2_with fail
  refine HPF.out.mono ?_
  rintro e w0 ⟨rfl, hw⟩
  obtain rfl := hw.symm
  clear hw
  go_wp2_with fail
  refine HRA.out.mono ?_
  rintro e w1 ⟨r, ok, rfl, b1, g1, g2⟩
  cases ok with
  | false =>
    obtain ⟨rfl, s, hs, hn⟩ := g1 rfl
    have HUN : Hid (Tr.vloop 0 ⟨Tr.digits key.data.toList, false, [], false, root.data.toList⟩ (bl p) = none) := Tr.vloop_unread _ _ _ ⟨_, List.mem_map.2 ⟨s, hs, rfl⟩, hn⟩
    have HB := hid b1
    clear g1 g2 b1 hs hn
    go_wp2_with fail
    exact bodyPost_ret (v := .tuple #[.slice none 0 0, .string ⟨#[]⟩, .int .i64 6]) (by simp [results, Tryz.results59, go_sem]) rfl ⟨_, _, 6, rfl, HB.out, by rw [HVR.out, HUN.out]; rfl, fun _ => rfl, fun h => by cases h⟩
  | true =>
    obtain ⟨vs, ho, hno⟩ := g2 rfl
    obtain ⟨a1, c1, rfl, hc1⟩ := nown_shape ho
    have HO := hid ho
    have HNO := hid hno
    have HLEN : Hid (vs.length = p.length) := hno.1
    have HC1 := hid hc1
    have HB1 := hid b1
    clear g1 g2 ho hno b1 hc1
    rw [HLEN.out]
    go_wp2_with fail
    have HBA : Hid (Below w1.heap.size w1 (w1.alloc (.cells #[.slice a1 p.length c1] 95))) := (Below.refl _ _).alloc (Nat.le_refl _) _
    have HLA : Hid (LeftAt (w1.alloc (.cells #[.slice a1 p.length c1] 95)) w1.heap.size a1 p.length 0) := ⟨a1, c1, heap_alloc_new w1 _, by have := HC1.out; rw [HLEN.out] at this; omega, fun b off h _ => h⟩
    refine (HDG.out _).mono ?_
    rintro e w2 ⟨rfl, b2⟩
    have HB2 : Hid (Below w1.heap.size w1 w2) := HBA.out.trans (b2.mono HBA.out.size)
    have HL2 := hid (left_later HLA.out (left_lt HLA.out) b2)
    clear b2
    go_wp2_with fail
    obtain ⟨R, hR⟩ : ∃ R, R = Tr.vloop 0 ⟨Tr.digits key.data.toList, false, [], false, root.data.toList⟩ (bl p) := ⟨_, rfl⟩
    refine (walk_any 87 enters_check ⟨w1.heap.size, 0, none⟩ root .nilIface (.inl rfl) ⟨(Tr.digits key.data.toList).toArray⟩ w2 (VJ w1 a1 p R) (VQ w1 a1 p R) ?_ (fun w v d h => way_verify (nown_rd HO.out) HNO.out HS.out.2 R w v d h)).mono ?_
    · intro w3 b3
      rw [hR]
      have hb := HB2.out.trans (b3.mono HB2.out.size)
      exact root_check (nown_rd HO.out) HNO.out HS.out.2 HS.out.1 HDL.out hb (left_later HL2.out (left_lt HL2.out) b3)
    rintro e w4 ⟨x, ok, rfl, q⟩
    obtain ⟨hb4, j, hj, hl4, q1, q2⟩ := q
    rw [← hR] at HVR
    have HQ1 := hid q1
    have HQ2 := hid q2
    have HB4 := hid hb4
    have HB5 : Hid (Below w.heap.size w w4) := HB1.out.trans (hb4.mono HB1.out.size)
    obtain ⟨a4, c4, hc4, _, _⟩ := hl4
    have z0 := (cell_of_row _ _ 0 _ _ _ hc4).trans rfl
    clear hR hb4 q1 q2 hc4 HL2 HB2 HLA HBA
    cases ok with
    | false =>
      have HE := hid (HQ2.out rfl)
      clear HQ1 HQ2
      go_wp2_with fail
      exact bodyPost_ret (v := .tuple #[.slice none 0 0, .string ⟨#[]⟩, .int .i64 6]) (by simp [results, Tryz.results59, go_sem]) rfl ⟨_, _, 6, rfl, HB5.out, by rw [HVR.out, HE.out]; rfl, fun _ => rfl, fun h => by cases h⟩
    | true =>
      have HE := hid (HQ1.out rfl)
      clear HQ1 HQ2
      by_cases hjn : p.length ≤ j
      · have hk : p.length - j = 0 := by omega
        rw [if_pos hjn] at HE
        rw [hk] at z0
        clear hk hj
        go_wp2_with fail
        exact bodyPost_ret (v := .tuple #[.slice a1 p.length c1, .string x, .int .i64 0]) (by simp [results, Tryz.results59, go_sem]) rfl ⟨_, _, 0, rfl, HB5.out, by rw [HVR.out, HE.out], (fun h => absurd rfl h), fun _ => ⟨vs, by
          have h1 := nown_later HO.out HB4.out
          rw [HLEN.out] at h1
          exact h1, by
          have h2 := nodes_wider (nodes_later HNO.out HB4.out) HB4.out.size
          rw [HLEN.out] at h2
          exact h2⟩⟩
      · obtain ⟨k, hk⟩ : ∃ k, p.length - j = k + 1 := ⟨p.length - j - 1, by omega⟩
        rw [if_neg hjn] at HE
        rw [hk] at z0
        have i0 : (0 : Int) < (k : Int) + 1 := by omega
        clear hk hj hjn
        go_wp2_with fail
        exact bodyPost_ret (v := .tuple #[.slice none 0 0, .string ⟨#[]⟩, .int .i64 6]) (by simp [results, Tryz.results59, go_sem]) rfl ⟨_, _, 6, rfl, HB5.out, by rw [HVR.out, HE.out]; rfl, fun _ => rfl, fun h => by cases h⟩

theorem check_any (root key : ByteArray) (a : Option Addr) (cap : Nat) (p : List ByteArray) (w : World) (hr : SRd w.heap.size w a p) :
    Calls Tryz.prog 59 #[.string root, .string key, .slice a p.length cap] w (CkOk root key p w) := by
  by_cases hf : pfault root key p = 0
  · exact check_run root key a cap p w hr hf
  · refine (check_fault hf (proofFault_any root key a cap p w hr)).mono ?_
    rintro e w' ⟨rfl, b⟩
    exact ⟨_, _, _, rfl, b, pfault_verify hf, fun _ => rfl, fun h => absurd h hf⟩

/-- Verify answers as the document says. -/
theorem verify_any (root key : ByteArray) (a : Option Addr) (cap : Nat) (p : List ByteArray) (w : World) (hr : SRd w.heap.size w a p) :
    Calls Tryz.prog 21 #[.string root, .string key, .slice a p.length cap] w fun e w' => e = .returned (.tuple #[.string ⟨(Tr.verify root.data.toList key.data.toList (bl p)).1.toArray⟩, .bool (Tr.verify root.data.toList key.data.toList (bl p)).2.1, .int .i64 ((Tr.verify root.data.toList key.data.toList (bl p)).2.2 : Nat)]) ∧ Below w.heap.size w w' := by
  refine (verify_out (Q := fun s m w' => ∃ N : Nat, m = N ∧ Below w.heap.size w w' ∧ Tr.verify root.data.toList key.data.toList (bl p) = (s.data.toList, !s.data.toList.isEmpty, N)) ((check_any root key a cap p w hr).mono ?_)).mono ?_
  · rintro e w' ⟨r, s, N, rfl, b, hv, h0, h1⟩
    by_cases hN : N = 0
    · obtain ⟨vs, ho, _⟩ := h1 hN
      obtain ⟨a1, c1, rfl, _⟩ := nown_shape ho
      exact ⟨_, _, _, _, _, rfl, N, rfl, b, hv⟩
    · obtain rfl := h0 hN
      exact ⟨_, _, _, _, _, rfl, N, rfl, b, hv⟩
  · rintro e w' ⟨s, m, rfl, N, rfl, b, hv⟩
    refine ⟨?_, b⟩
    rw [hv]
    have e1 : (s.toList == []) = s.data.toList.isEmpty := by
      rw [ByteArray.toList_eq]
      cases s.data.toList <;> rfl
    rw [e1]
end Go.Proofs.YtbmohenjphmlgabGreat

/- The walk of the finder in proofFor (of the program): it takes down the bytes of each node that it is asked for. -/
namespace Go.Proofs.YtbmohenjphmlgabGreat
open Go.RowKit
set_option maxRecDepth 100000

/-- The variable at block c holds these texts, in a row of its own. -/
def Holds (w : World) (c : Nat) (l : List ByteArray) : Prop := ∃ v, w.heap[c]? = some (.cells #[v] 23 (0, 0)) ∧ TOwn w (c + 1) v l

theorem holds_later {w w' : World} {c : Nat} {l : List ByteArray} (h : Holds w c l) (hb : Below w.heap.size w w') : Holds w' c l := by
  obtain ⟨v, h1, h2⟩ := h
  exact ⟨v, (hb.block c (Array.getElem?_eq_some_iff.1 h1).1).trans h1, town_later h2 hb⟩

theorem holds_lt {w : World} {c : Nat} {l : List ByteArray} (h : Holds w c l) : c < w.heap.size := by
  obtain ⟨v, h1, _⟩ := h
  exact (Array.getElem?_eq_some_iff.1 h1).1

set_option maxHeartbeats 3200000 in
theorem prove1_any {n : Value} {k : Int} {l0 : Bool} {s0 : ByteArray} {a : Option Addr} {n0 cap m : Nat} {t : Itm} (s : ByteArray) (c : Nat) (l : List ByteArray) (w : World) (h : Nd n k l0 s0 a n0 cap) (hs : Small t) (hr : Rep w.heap.size w (m + 1) (.agg #[.bool l0, .string s0, .slice a n0 cap]) t) (hh : Holds w c l) (hl : l.length ≤ 1000) :
    Calls Tryz.prog 75 #[.agg #[.string s, n], .pointer (some ⟨c, 0, none⟩)] w fun e w' => e = .returned (.tuple #[n, .bool true]) ∧ Holds w' c (l ++ [⟨(Itm.enc t).toArray⟩]) ∧ Below c w w' := by
  have HB := hid (fun w h => commonBytes_any k a n0 cap l0 s0 m t w hs h)
  obtain ⟨T, A, rfl, hm, _⟩ := nd_call h
  obtain ⟨v, hc, ho⟩ := hh
  have HO := hid ho
  have HC := hid hc
  have HR := hid hr
  have hlt : c < w.heap.size := (Array.getElem?_eq_some_iff.1 hc).1
  have hne : ¬ c = w.heap.size := by omega
  obtain ⟨av, cv, hv, _⟩ := town_shape ho
  subst hv
  clear hc ho hr h hs
  go_enter Tryz.func75, Tryz.ntmps75
  go_wp2_with fail
  have HWB : Hid (Below w.heap.size w (w.alloc (.cells #[.string s, .iface T (.agg A)] 109)).drew) := ((Below.refl _ _).alloc (Nat.le_refl _) _).drew
  have hS : (fun w' : World => w'.heap[c]? = some (.cells #[.slice av l.length cv] 23 (0, 0)) ∧ w'.heap[w.heap.size]? = some (.cells #[.string s, .iface T (.agg A)] 109 (0, 0))) (w.alloc (.cells #[.string s, .iface T (.agg A)] 109)).drew := ⟨(HWB.out.block _ hlt).trans HC.out, heap_alloc_new w _⟩
  refine wp_region_L (fun w' => w'.heap[c]? = some (.cells #[.slice av l.length cv] 23 (0, 0)) ∧ w'.heap[w.heap.size]? = some (.cells #[.string s, .iface T (.agg A)] 109 (0, 0))) 6 (by kernel_rfl) ?_
  refine wpAnyL_take (i := 0) (v := .slice av l.length cv) rfl (by kernel_rfl) (by kernel_rfl) (by kernel_rfl) (by kernel_rfl) (by kernel_rfl) (fun _ _ _ h => h) hS (Or.inl ⟨by kernel_rfl, ?_⟩) ?_
  · intro w' hSw
    have z0 := (cell_of_row w' _ 0 _ _ _ hSw.1).trans rfl
    go_simp
  try simp only [Act.put]
  refine wpAnyL_take (i := 1) (v := .pointer (some ⟨w.heap.size, 1, none⟩)) rfl (by kernel_rfl) (by kernel_rfl) (by kernel_rfl) (by kernel_rfl) (by kernel_rfl) (fun _ _ _ h => h) hS (Or.inl ⟨by kernel_rfl, ?_⟩) ?_
  · (intro w' hSw; go_simp)
  try simp only [Act.put]
  refine wpAnyL_take (i := 2) (v := .iface T (.agg A)) rfl (by kernel_rfl) (by kernel_rfl) (by kernel_rfl) (by kernel_rfl) (by kernel_rfl) (fun _ _ _ h => h) hS (Or.inl ⟨by kernel_rfl, ?_⟩) ?_
  · intro w' hSw
    have z0 := (cell_of_row w' _ 1 _ _ _ hSw.2).trans rfl
    go_simp
  try simp only [Act.put]
  refine wpAnyL_ready (rs := [3]) (by kernel_rfl) (by simp) ?_
  refine AllReadyL.cons rfl (fun K hK => ?_) AllReadyL.nil
  go_simp
  refine (HB.out _ (rep_later HWB.out HR.out)).mono ?_
  rintro e w1 ⟨rfl, b1⟩
  have hS1 : (fun w' : World => w'.heap[c]? = some (.cells #[.slice av l.length cv] 23 (0, 0)) ∧ w'.heap[w.heap.size]? = some (.cells #[.string s, .iface T (.agg A)] 109 (0, 0))) w1 := ⟨kept_block b1 hS.1, kept_block b1 hS.2⟩
  have HB1 : Hid (Below w.heap.size w w1) := HWB.out.trans (b1.mono HWB.out.size)
  have HO1 := hid (town_later HO.out HB1.out)
  clear b1
  refine hK.out _ _ hS1 ?_
  clear hK K
  try simp only [Act.put]
  obtain ⟨E, hE⟩ : ∃ E : ByteArray, E = ⟨(Itm.enc t).toArray⟩ := ⟨_, rfl⟩
  have HE := hid hE
  rw [← hE]
  clear hE
  refine wpAnyL_ready (rs := [4]) (by kernel_rfl) (by simp) ?_
  refine AllReadyL.cons rfl (fun K hK => ?_) AllReadyL.nil
  go_simp
  refine hK.out _ _ ⟨(Below.heap_alloc _ _ _ (Array.getElem?_eq_some_iff.1 hS1.1).1).trans hS1.1, (Below.heap_alloc _ _ _ (Array.getElem?_eq_some_iff.1 hS1.2).1).trans hS1.2⟩ ?_
  clear hK K
  try simp only [Act.put]
  have hcw : c + 1 ≤ w1.heap.size := Nat.succ_le_of_lt (Array.getElem?_eq_some_iff.1 hS1.1).1
  refine wpAnyL_ready (rs := [5]) (by kernel_rfl) (by simp) ?_
  refine AllReadyL.cons rfl (fun K hK => ?_) AllReadyL.nil
  refine step_push_text rfl (.tmp 5) (.tmp 9) rfl E w1.heap.size rfl rfl rfl HO1.out hcw (by omega) ?_
  intro v2 w2 o2 b2 k2
  have hne2 : ∀ k, k < c + 1 → (Value.slice av l.length cv).ownBlock ≠ some k := fun k hk e => by have := (town_lt HO1.out _ e).1; omega
  have hS2 : (fun w' : World => w'.heap[c]? = some (.cells #[.slice av l.length cv] 23 (0, 0)) ∧ w'.heap[w.heap.size]? = some (.cells #[.string s, .iface T (.agg A)] 109 (0, 0))) w2 := by
    refine ⟨(k2 c (by omega) (hne2 c (by omega))).trans hS1.1, ?_⟩
    refine (k2 w.heap.size (Array.getElem?_eq_some_iff.1 hS1.2).1 ?_).trans hS1.2
    intro e
    have := (town_lt HO.out _ e).2
    omega
  have HO2 := hid o2
  have HB2 : Hid (Below c w w2) := (HB1.out.mono (by omega)).trans (b2.mono (by omega))
  clear o2 b2 k2
  refine hK.out _ _ hS2 ?_
  clear hK K
  try simp only [Act.put]
  obtain ⟨a2, c2, hv2, _⟩ := town_shape HO2.out
  subst hv2
  have q0 := (cell_of_row _ _ 0 _ _ _ hS2.1).trans rfl
  have hf0 := frozen_of_row _ _ 0 _ _ hS2.1
  refine wpAnyL_ready (rs := [6]) (by kernel_rfl) (by simp) ?_
  refine AllReadyL.last rfl (fun K hK => ?_)
  go_simp
  refine hK.out _ _ ?_
  clear hK K
  try simp only [Act.put]
  refine wpAny_done (by kernel_rfl) ?_ _
  have HL2 : Hid ((l ++ [E]).length = l.length + 1) := by rw [Hid, List.length_append]; rfl
  have HH : Hid (Holds (w2.setCell ⟨c, 0, none⟩ (.slice a2 (l.length + 1) c2)) c (l ++ [E])) := by
    refine ⟨.slice a2 (l.length + 1) c2, heap_setCell_same _ _ _ _ _ _ hS2.1, ?_⟩
    have o3 := HO2.out
    rw [HL2.out] at o3
    exact town_frame o3 (fun g hg => Below.heap_setCell _ _ _ _ (by have := (town_lt o3 g hg).1; simp; omega))
  have HBF : Hid (Below c w (w2.setCell ⟨c, 0, none⟩ (.slice a2 (l.length + 1) c2))) := HB2.out.setCell (p := ⟨c, 0, none⟩) (Nat.le_refl _) _
  have z1 := (cell_of_row _ _ 1 _ _ _ ((Below.heap_setCell w2 ⟨c, 0, none⟩ (.slice a2 (l.length + 1) c2) w.heap.size (fun e => hne e.symm)).trans hS2.2)).trans rfl
  generalize w2.setCell ⟨c, 0, none⟩ (.slice a2 (l.length + 1) c2) = W3 at *
  clear q0 hf0 hS2 hS1 hS HO2 HB2 HO1 HB1 HWB HO HC HR HB
  go_wp2_with fail
  exact bodyPost_ret (v := .tuple #[.iface T (.agg A), .bool true]) (by simp [results, Tryz.results75, go_sem]) rfl ⟨rfl, by rw [← HE.out]; exact HH.out, HBF.out⟩
end Go.Proofs.YtbmohenjphmlgabGreat

/- The walk of tableOf (of the program): the pairs that count. -/
namespace Go.Proofs.YtbmohenjphmlgabGreat
open Go.RowKit
set_option maxRecDepth 100000

/-- The last place below k with a key, or nought. -/
def lastAt (l : List (ByteArray × ByteArray)) (key : List UInt8) : Nat → Nat
  | 0 => 0
  | k + 1 => if (l[k]?).map (fun p => p.1.data.toList) = some key then k else lastAt l key k

theorem lastAt_max (l : List (ByteArray × ByteArray)) (key : List UInt8) (k j : Nat) (hj : j < k) (h : (l[j]?).map (fun p => p.1.data.toList) = some key) : j ≤ lastAt l key k ∧ lastAt l key k < k ∧ (l[lastAt l key k]?).map (fun p => p.1.data.toList) = some key := by
  induction k with
  | zero => omega
  | succ k ih =>
    unfold lastAt
    by_cases hk : (l[k]?).map (fun p => p.1.data.toList) = some key
    · rw [if_pos hk]; exact ⟨by omega, by omega, hk⟩
    · rw [if_neg hk]
      have hne : j ≠ k := fun e => hk (e ▸ h)
      have := ih (by omega)
      exact ⟨this.1, by omega, this.2.2⟩

/-- Does the i-th pair count? -/
def counts (l : List (ByteArray × ByteArray)) (p : ByteArray × ByteArray) (i : Nat) : Prop := p.1.data.toList ∉ (l.drop (i + 1)).map (fun q => q.1.data.toList) ∧ p.2.data.toList ≠ []

instance (l : List (ByteArray × ByteArray)) (p : ByteArray × ByteArray) (i : Nat) : Decidable (counts l p i) := by unfold counts; infer_instance

theorem counts_iff {l : List (ByteArray × ByteArray)} {i : Nat} (hi : i < l.length) : counts l l[i] i ↔ lastAt l l[i].1.data.toList l.length = i ∧ l[i].2.data.toList ≠ [] := by
  have hat : (l[i]?).map (fun p => p.1.data.toList) = some l[i].1.data.toList := by rw [List.getElem?_eq_getElem hi]; rfl
  have hm := lastAt_max l l[i].1.data.toList l.length i hi hat
  unfold counts
  refine and_congr_left fun _ => ?_
  constructor
  · intro hno
    refine Classical.byContradiction fun hne => hno ?_
    have hlt : i < lastAt l l[i].1.data.toList l.length := by omega
    have hk := hm.2.2
    rw [List.getElem?_eq_getElem hm.2.1] at hk
    refine List.mem_map.2 ⟨l[lastAt l l[i].1.data.toList l.length]'hm.2.1, ?_, by simpa using hk⟩
    rw [List.mem_iff_getElem]
    refine ⟨lastAt l l[i].1.data.toList l.length - (i + 1), by rw [List.length_drop]; omega, ?_⟩
    rw [List.getElem_drop]
    congr 1
    omega
  · intro he hin
    obtain ⟨q, hq, hqk⟩ := List.mem_map.1 hin
    obtain ⟨j, hj, rfl⟩ := List.getElem_of_mem hq
    rw [List.length_drop] at hj
    rw [List.getElem_drop] at hqk
    have := lastAt_max l l[i].1.data.toList l.length (i + 1 + j) (by omega) (by rw [List.getElem?_eq_getElem (by omega)]; simpa using hqk)
    omega

def digB (p : ByteArray × ByteArray) : ByteArray × ByteArray := (⟨(Tr.digits p.1.data.toList).toArray⟩, p.2)

/-- The pairs that count, among the first k. -/
def tabTo (l : List (ByteArray × ByteArray)) (k : Nat) : List (ByteArray × ByteArray) := (List.range k).filterMap fun i => match l[i]? with | some p => if counts l p i then some (digB p) else none | none => none

theorem tabTo_succ {l : List (ByteArray × ByteArray)} {k : Nat} (hk : k < l.length) : tabTo l (k + 1) = tabTo l k ++ (if counts l l[k] k then [digB l[k]] else []) := by
  unfold tabTo
  rw [List.range_succ, List.filterMap_append]
  congr 1
  simp only [List.filterMap_cons, List.filterMap_nil, List.getElem?_eq_getElem hk]
  split <;> simp_all

/-- As lists of bytes. -/
def lists (l : List (ByteArray × ByteArray)) : List (List UInt8 × List UInt8) := l.map fun p => (p.1.data.toList, p.2.data.toList)

theorem tabTo_table : ∀ l : List (ByteArray × ByteArray), ents (tabTo l l.length) = Tr.table (lists l)
  | [] => rfl
  | p :: r => by
    have ih := tabTo_table r
    have e : tabTo (p :: r) (p :: r).length = (if counts (p :: r) p 0 then [digB p] else []) ++ tabTo r r.length := by
      unfold tabTo
      rw [List.length_cons, List.range_succ_eq_map, List.filterMap_cons, List.filterMap_map]
      have e2 : ((fun i => match (p :: r)[i]? with | some q => if counts (p :: r) q i then some (digB q) else none | none => none) ∘ Nat.succ) = fun i => match r[i]? with | some q => if counts r q i then some (digB q) else none | none => none := by
        funext i
        simp only [Function.comp, Nat.succ_eq_add_one, List.getElem?_cons_succ]
        rfl
      rw [e2]
      simp only [List.getElem?_cons_zero]
      by_cases hc : counts (p :: r) p 0
      · rw [if_pos hc, if_pos hc]; rfl
      · rw [if_neg hc, if_neg hc]; rfl
    rw [e]
    unfold ents at ih ⊢
    rw [List.map_append, ih]
    show _ = Tr.table ((p.1.data.toList, p.2.data.toList) :: lists r)
    rw [Tr.table]
    have hmap : (lists r).map (·.1) = r.map (fun q => q.1.data.toList) := by unfold lists; rw [List.map_map]; rfl
    by_cases hc : counts (p :: r) p 0
    · rw [if_pos hc, if_neg]
      · rfl
      · rw [hmap]
        exact fun h => h.elim (fun h => hc.1 h) (fun h => hc.2 h)
    · rw [if_neg hc, if_pos]
      · rfl
      · rw [hmap]
        refine Classical.byContradiction fun h => hc ?_
        rw [not_or] at h
        exact ⟨h.1, h.2⟩

end Go.Proofs.YtbmohenjphmlgabGreat

/- The walk of tableOf (of the program). -/
namespace Go.Proofs.YtbmohenjphmlgabGreat
open Go.RowKit Go.Maps
set_option maxRecDepth 100000

theorem lawText : Keyed Tryz.prog 9 := string_keyed Tryz.underlying9
theorem zeroInt (w : World) : (zeroValue 3).run Tryz.prog w = .ok (.int .i64 0) w := by kernel_rfl

/-- The map of last places. -/
def LastMap (w : World) (b : Nat) (l : List (ByteArray × ByteArray)) (k : Nat) (D : DataW Unit) : Prop :=
  w.ownsMap Tryz.prog 9 (plainElem Tryz.prog 3) b k D ∧ ∀ key : List UInt8, D.atKey (.string key) (.lit (.int .i64 0)) = .lit (.int .i64 (lastAt l key k : Nat))

theorem lastMap_start (w : World) (l : List (ByteArray × ByteArray)) : LastMap (w.alloc (.map #[] 0)) w.heap.size l 0 (.map []) := ⟨World.ownsMap_made _ _ _ _, fun _ => rfl⟩

theorem lastMap_next {w w' : World} {b : Nat} {l : List (ByteArray × ByteArray)} {k : Nat} {D : DataW Unit} (h : LastMap w b l k D) (hk : k < l.length) (ho : w'.ownsMap Tryz.prog 9 (plainElem Tryz.prog 3) b (k + 1) (D.put (.string l[k].1.data.toList) (.lit (.int .i64 k)))) : LastMap w' b l (k + 1) (D.put (.string l[k].1.data.toList) (.lit (.int .i64 k))) := by
  refine ⟨ho, fun key => ?_⟩
  unfold lastAt
  rw [List.getElem?_eq_getElem hk]
  by_cases hkey : l[k].1.data.toList = key
  · subst hkey
    rw [atKey_put_same (k := .string l[k].1.data.toList) h.1.isMap trivial, if_pos (show Option.map (fun p : ByteArray × ByteArray => p.1.data.toList) (some l[k]) = some l[k].1.data.toList from rfl)]
  · rw [atKey_put_other (fun e => hkey (by cases e; rfl)), if_neg (fun e => hkey (by simpa using e))]
    exact h.2 key

theorem lastMap_kept {w w' : World} {b : Nat} {l : List (ByteArray × ByteArray)} {k : Nat} {D : DataW Unit} (h : LastMap w b l k D) (hb : w'.heap[b]? = w.heap[b]?) : LastMap w' b l k D := by
  obtain ⟨⟨es, clock, h1, h2⟩, h3⟩ := h
  exact ⟨⟨es, clock, hb.trans h1, h2⟩, h3⟩

/-- A pair that was just laid is appended to a row of the call's own: at a step of a region that draws. -/
theorem step_push_pair {ops : Array Oper} {o : Oper} {act : Act} {K : Act → World → Prop} {Q' : Exit → Act → World → Prop} {E : Prop} (hgd : o.guard = none) (s x : Operand)
    (hop : o.op = .call { callee := .builtin .append, args := #[s, x], argTypes := #[71, 71] }) {W wr : World} {B : Nat} {v1 : Value} {l1 : List (ByteArray × ByteArray)} (p : ByteArray × ByteArray) (L : Nat) (hL : wr.heap.size = L)
    (hs : act.eval s = v1) (hx : act.eval x = .slice (some ⟨L, 0, none⟩) 1 1) (ho : POwn wr B v1 l1) (hb : Below B W wr) (hB : B ≤ W.heap.size) (hlen : l1.length ≤ 1000000)
    (h : ∀ v' w', POwn w' B v' (l1 ++ [p]) → Below B W w' → (∀ k, k < wr.heap.size → v1.ownBlock ≠ some k → w'.heap[k]? = wr.heap[k]?) → K (act.put o.dst v') w') : if Region.wanted o (yielded ops act.tmps) = true then Oper.wp Tryz.prog o act (wr.alloc (.cells #[.string p.1, .string p.2] 102)) K Q' else E := by
  subst hL
  have hw : Region.wanted o (yielded ops act.tmps) = true := by simp [Region.wanted, hgd]
  rw [if_pos hw]
  obtain ⟨i0, hi, hz0, hz1, hz2⟩ := info_parts infoPair
  have hb2 : Below B W (wr.alloc (.cells #[.string p.1, .string p.2] 102)) := hb.alloc (Nat.le_trans hB hb.size) _
  have hBw : B ≤ (wr.alloc (.cells #[.string p.1, .string p.2] 102)).heap.size := Nat.le_trans hB hb2.size
  have ho2 : POwn (wr.alloc (.cells #[.string p.1, .string p.2] 102)) B v1 l1 := pown_frame ho (fun g hg => Below.heap_alloc _ _ _ (pown_lt ho g hg).2)
  obtain ⟨v', w', hr, h2, h3, _⟩ := run_append_mine (P := Tryz.prog) _ B 71 o.type 102 i0 _ 2 32 Tryz.underlying71 hi hz0 hz1 hz2 rfl (by decide) v1 l1.length (pcells l1) ho2 ⟨wr.heap.size, 0, none⟩ 1 1 [.string p.1, .string p.2] rfl (cells_two _ _ _ _) (by simp [Value.oneCell']) (by unfold maxLen; omega) (by omega) hBw
  unfold Oper.wp execOp
  simp only [hop, resolve, invoke, builtin, Sem.run_bind, Sem.run_pure, Result.andThen_ok, List.map_toArray, List.map_cons, List.map_nil, hs, hx, hr]
  refine h v' w' ?_ (hb2.grown h3 hBw (fun g hgg => (pown_lt ho g hgg).1)) (fun k hk hne => (h3.block k (by rw [alloc_size]; omega) (fun e => hne e.symm)).trans (Below.heap_alloc _ _ _ hk))
  unfold POwn
  rw [List.length_append, pcells_snoc]
  exact h2

theorem tabTo_le (l : List (ByteArray × ByteArray)) (k : Nat) : (tabTo l k).length ≤ k := by
  unfold tabTo
  have := List.length_filterMap_le (fun i => match l[i]? with | some p => if counts l p i then some (digB p) else none | none => none) (List.range k)
  rwa [List.length_range] at this

theorem cellB {w w' : World} {b off : Nat} (h : w'.heap[b]? = w.heap[b]?) : w'.cell? ⟨b, off, none⟩ = w.cell? ⟨b, off, none⟩ := World.cell?_of_block (w := w) h

set_option maxHeartbeats 3200000 in
theorem tableOf_any (a : Option Addr) (cap : Nat) (l : List (ByteArray × ByteArray)) (w : World) (hr : PRd w.heap.size w a l) (hl : l.length ≤ 1000) (hz : ∀ p ∈ l, p.1.size ≤ 1000) : Calls Tryz.prog 41 #[.slice a l.length cap] w fun e w' => ∃ v, e = .returned v ∧ POwn w' w.heap.size v (tabTo l l.length) ∧ Below w.heap.size w w' := by
  have HR := hid hr
  have HZ := hid hz
  have HD := hid (fun s w h => digitsOf_any s w h)
  have hmm := @run_makeMap Tryz.prog
  have HM0 := hid (lastMap_start w l)
  clear hr hz
  go_enter Tryz.func41, Tryz.ntmps41
  go_wp2_with fail
  go_loopw [5, 12] (fun _ i wr => ∃ k : Nat, i = .int .i64 k ∧ k ≤ l.length ∧ Hid (∃ D, LastMap wr w.heap.size l k D ∧ Below w.heap.size w wr)) (fun _ i _ => l.length - (intOf i).toNat)
  case atStart => exact ⟨0, rfl, Nat.zero_le _, _, HM0.out, (Below.refl _ _).alloc (Nat.le_refl _) _⟩
  case round =>
    obtain ⟨k, rfl, hk, HH⟩ := hrel
    by_cases hlt : k < l.length
    · obtain ⟨b, off, rfl, hb, e0, e1⟩ := HR.out k hlt
      obtain ⟨D, hD, hB⟩ := HH.out
      have f0 := (hB.cell (p := ⟨b, off + k * 2, none⟩) hb).trans e0
      have f1 := (hB.cell (p := ⟨b, off + k * 2 + 1, none⟩) hb).trans e1
      have i1 : (0 : Int) ≤ (k : Int) := by omega
      have i2 : (k : Int) < (l.length : Int) := by omega
      have HDM := hid hD
      have HDB := hid hB
      have HDA := hid (lastMap_kept (w' := wr.alloc (.cells #[.string l[k].1, .string l[k].2] 27)) hD (Below.heap_alloc _ _ _ hD.1.lt))
      have hkey : keyOf Tryz.prog 9 (.string l[k].1) = some (.string l[k].1.data.toList) := Go.WideMaps.keyOf_string_mk Tryz.underlying9 (by have := HZ.out _ (List.getElem_mem hlt); unfold maxLen; omega)
      clear e0 e1 hD hB HH
      go_wp2_with (at_mapUpdate; go_loud (refine wpList_mapUpdate_own _ rfl _ _ _ 115 rfl 9 3 lawText Tryz.underlying115 _ w.heap.size k _ rfl HDA.out.1 (by unfold maxLen; omega) _ _ _ rfl rfl hkey _ [] (plainElem_int Tryz.underlying3 (WalkArith.wf_i64 (by omega))) ?_); intro w1 hown1 hgrow1; have HO1 := hid hown1; have HG1 := hid hgrow1; clear hown1 hgrow1)
      exact ⟨⟨k + 1, by go_num, by omega, _, lastMap_next HDM.out hlt HO1.out, (HDB.out.alloc HDB.out.size _).grown HG1.out (by have := HDB.out.size; rw [alloc_size]; omega) (fun j hj => by cases hj; exact Nat.le_refl _)⟩, by simp [intOf]; omega⟩
    · have i2 : ¬ (k : Int) < (l.length : Int) := by omega
      obtain rfl : k = l.length := by omega
      obtain ⟨D, hD, hB⟩ := HH.out
      have HDM := hid hD
      have HDB := hid hB
      have HBS : Hid (w.heap.size + 1 ≤ wr.heap.size) := hD.1.lt
      clear hD hB HH hlt hk
      generalize wr = W2 at *
      go_wp2_with fail
      go_loopw [6, 8, 24] (fun v _ i wx => ∃ m : Nat, i = .int .i64 m ∧ m ≤ l.length ∧ Hid (POwn wx (w.heap.size + 1) v (tabTo l m) ∧ Below (w.heap.size + 1) W2 wx)) (fun _ _ i _ => l.length - (intOf i).toNat)
      case atStart => exact ⟨0, rfl, Nat.zero_le _, pown_nil _ _, Below.refl _ _⟩
      case round =>
        obtain ⟨m, rfl, hm, HV⟩ := hrel
        obtain ⟨av, cv, hv⟩ := pown_shape HV.out.1
        subst hv
        by_cases hlt : m < l.length
        · obtain ⟨b, off, rfl, hb, e0, e1⟩ := HR.out m hlt
          have HBW : Hid (Below w.heap.size w wr) := HDB.out.trans (HV.out.2.mono (Nat.le_succ _))
          have f0 := (HBW.out.cell (p := ⟨b, off + m * 2, none⟩) hb).trans e0
          have f1 := (HBW.out.cell (p := ⟨b, off + m * 2 + 1, none⟩) hb).trans e1
          have i1 : (0 : Int) ≤ (m : Int) := by omega
          have i3 : (m : Int) < (l.length : Int) := by omega
          have hkey : keyOf Tryz.prog 9 (.string l[m].1) = some (.string l[m].1.data.toList) := Go.WideMaps.keyOf_string_mk Tryz.underlying9 (by have := HZ.out _ (List.getElem_mem hlt); unfold maxLen; omega)
          have HDA : Hid (LastMap (wr.alloc (.cells #[.string l[m].1, .string l[m].2] 27)) w.heap.size l l.length D) := lastMap_kept HDM.out ((Below.heap_alloc _ _ _ (by have := HV.out.2.size; have := HBS.out; omega)).trans (HV.out.2.block _ (by omega)))
          have HTS := hid (tabTo_succ hlt)
          have HCT := hid (counts_iff hlt)
          have HLE : Hid ((tabTo l m).length ≤ 1000000) := by have := tabTo_le l m; rw [Hid]; omega
          clear e0 e1
          obtain ⟨q, hq⟩ : ∃ q, q = lastAt l l[m].1.data.toList l.length := ⟨_, rfl⟩
          have HLM : Hid (D.atKey (.string l[m].1.data.toList) (.lit (.int .i64 0)) = .lit (.int .i64 (q : Nat))) := by rw [Hid, hq]; exact HDM.out.2 _
          have HSKIP : Hid (¬ counts l l[m] m → (∃ m_1 : Nat, Value.int .i64 ((m : Int) + 1) = .int .i64 m_1 ∧ m_1 ≤ l.length ∧ Hid (POwn (wr.alloc (.cells #[.string l[m].1, .string l[m].2] 27)) (w.heap.size + 1) (.slice av (tabTo l m).length cv) (tabTo l m_1) ∧ Below (w.heap.size + 1) W2 (wr.alloc (.cells #[.string l[m].1, .string l[m].2] 27)))) ∧ l.length - (intOf (.int .i64 ((m : Int) + 1))).toNat < l.length - (intOf (.int .i64 (m : Int))).toNat) := fun hno =>
            ⟨⟨m + 1, by go_num, by omega, by rw [HTS.out, if_neg hno, List.append_nil]; exact pown_frame HV.out.1 (fun g hg => Below.heap_alloc _ _ _ (pown_lt HV.out.1 g hg).2), HV.out.2.alloc (Nat.le_trans HBS.out HV.out.2.size) _⟩, by simp [intOf]; omega⟩
          by_cases hqm : q = m
          · by_cases hve : l[m].2.data.toList = []
            · have hve' : (l[m].2.toList == []) = true := by rw [ByteArray.toList_eq, hve]; rfl
              have HNO : Hid (¬ counts l l[m] m) := fun h => (HCT.out.1 h).2 hve
              have hqm' : (q : Int) = (m : Int) := by rw [hqm]
              clear hve hq hqm
              go_wp2_with (at_lookup; go_loud (refine wpList_lookup_own_int _ rfl _ _ 115 rfl 9 3 .i64 lawText Tryz.underlying115 Tryz.underlying3 (zeroInt _) w.heap.size l.length D rfl HDA.out.1 _ _ rfl hkey ?_); intro c hat hwc; obtain rfl : c = (q : Int) := (by rw [HLM.out] at hat; cases hat; rfl); clear hat hwc)
              exact HSKIP.out HNO.out
            · have hve' : (l[m].2.toList == []) = false := by rw [ByteArray.toList_eq, beq_eq_false_iff_ne]; exact hve
              have HYES : Hid (counts l l[m] m) := HCT.out.2 ⟨by rw [← hq]; exact hqm, hve⟩
              have hqm' : (q : Int) = (m : Int) := by rw [hqm]
              have hks : l[m].1.size ≤ 100000000 := by have := HZ.out _ (List.getElem_mem hlt); omega
              have HTS2 : Hid (tabTo l (m + 1) = tabTo l m ++ [digB l[m]]) := by rw [Hid, HTS.out, if_pos HYES.out]
              have HPW : Hid (POwn (wr.alloc (.cells #[.string l[m].1, .string l[m].2] 27)) (w.heap.size + 1) (.slice av (tabTo l m).length cv) (tabTo l m)) := pown_frame HV.out.1 (fun g hg => Below.heap_alloc _ _ _ (pown_lt HV.out.1 g hg).2)
              have HBA : Hid (Below (w.heap.size + 1) W2 (wr.alloc (.cells #[.string l[m].1, .string l[m].2] 27))) := HV.out.2.alloc (Nat.le_trans HBS.out HV.out.2.size) _
              have HSZ2 : Hid (w.heap.size + 1 ≤ wr.heap.size + 1) := by have := HV.out.2.size; have := HBS.out; rw [Hid]; omega
              have HOB : Hid ((Value.slice av (tabTo l m).length cv).ownBlock ≠ some wr.heap.size) := fun e => Nat.lt_irrefl _ (pown_lt HV.out.1 _ e).2
              clear hve hq hqm HSKIP HTS HCT
              generalize tabTo l m = tm at *
              go_wp2_with (at_lookup; go_loud (refine wpList_lookup_own_int _ rfl _ _ 115 rfl 9 3 .i64 lawText Tryz.underlying115 Tryz.underlying3 (zeroInt _) w.heap.size l.length D rfl HDA.out.1 _ _ rfl hkey ?_); intro c hat hwc; obtain rfl : c = (q : Int) := (by rw [HLM.out] at hat; cases hat; rfl); clear hat hwc)
              have x0 : (wr.alloc (.cells #[.string l[m].1, .string l[m].2] 27)).cell? ⟨wr.heap.size, 0, none⟩ = some (.string l[m].1) := cell_of_row _ _ 0 _ _ _ (heap_alloc_new wr _)
              have x1 : (wr.alloc (.cells #[.string l[m].1, .string l[m].2] 27)).cell? ⟨wr.heap.size, 1, none⟩ = some (.string l[m].2) := cell_of_row _ _ 1 _ _ _ (heap_alloc_new wr _)
              have hlt3 : wr.heap.size < (wr.alloc (.cells #[.string l[m].1, .string l[m].2] 27)).heap.size := by rw [alloc_size]; omega
              generalize wr.alloc (.cells #[.string l[m].1, .string l[m].2] 27) = W3 at *
              go_region_held3 (fun w' => w'.cell? ⟨wr.heap.size, 0, none⟩ = some (.string l[m].1) ∧ w'.cell? ⟨wr.heap.size, 1, none⟩ = some (.string l[m].2)) (go_keep)
                ((first
                  | (go_at_call 48; refine (HD.out _ _ hks).mono ?_; rintro e w3 ⟨rfl, b3⟩; have HB3 : Hid (Below (w.heap.size + 1) W2 w3) := HBA.out.trans (Below.mono ⟨b3.os, b3.tape, b3.output, b3.size, b3.block⟩ (Nat.le_trans HBS.out HBA.out.size)); have HO3 : Hid (POwn w3 (w.heap.size + 1) (.slice av tm.length cv) tm) := pown_frame HPW.out (fun g hg => b3.block g (pown_lt HPW.out g hg).2); have z0 := (b3.cell (p := ⟨wr.heap.size, 0, none⟩) hlt3).trans x0; have z1 := (b3.cell (p := ⟨wr.heap.size, 1, none⟩) hlt3).trans x1; have hne3 : wr.heap.size ≠ w3.heap.size := Nat.ne_of_lt (Nat.lt_of_lt_of_le hlt3 b3.size); have hlt4 : wr.heap.size < w3.heap.size := Nat.lt_of_lt_of_le hlt3 b3.size; clear b3)
                  | (go_loud (refine step_push_pair rfl (.tmp 40) (.tmp 47) rfl (digB l[m]) _ rfl rfl rfl HO3.out HB3.out HBS.out HLE.out ?_); intro v' w' ho' hb' hk'; have HO' := hid ho'; have HB' := hid hb'; have y0 := (cellB (off := 0) (hk' wr.heap.size (Nat.lt_of_le_of_ne (Nat.le_of_lt hlt4) hne3) HOB.out)).trans z0; have y1 := (cellB (off := 1) (hk' wr.heap.size (Nat.lt_of_le_of_ne (Nat.le_of_lt hlt4) hne3) HOB.out)).trans z1; clear ho' hb' hk')))
              all_goals go_wp2_with fail
              all_goals exact ⟨⟨m + 1, by go_num, by omega, by rw [HTS2.out]; exact HO'.out, HB'.out⟩, by simp [intOf]; omega⟩
          · have HNO : Hid (¬ counts l l[m] m) := fun h => hqm (by rw [hq]; exact (HCT.out.1 h).1)
            have hqm' : ¬ (q : Int) = (m : Int) := by omega
            clear hq hqm
            go_wp2_with (at_lookup; go_loud (refine wpList_lookup_own_int _ rfl _ _ 115 rfl 9 3 .i64 lawText Tryz.underlying115 Tryz.underlying3 (zeroInt _) w.heap.size l.length D rfl HDA.out.1 _ _ rfl hkey ?_); intro c hat hwc; obtain rfl : c = (q : Int) := (by rw [HLM.out] at hat; cases hat; rfl); clear hat hwc)
            exact HSKIP.out HNO.out
        · have i3 : ¬ (m : Int) < (l.length : Int) := by omega
          obtain rfl : m = l.length := by omega
          go_wp2_with fail
          go_ret
          exact ⟨_, rfl, owns_base HV.out.1 (Nat.le_succ _), HDB.out.trans (HV.out.2.mono (Nat.le_succ _))⟩
end Go.Proofs.YtbmohenjphmlgabGreat
