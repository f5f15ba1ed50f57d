/- Part 27 of a proof: what the last text needs. -/
import Derived.Test.YtbmohenjphmlgaaPart26
import Derived.Test.YtbmohenjphmlgaaPart15
import Derived.Test.YtbmohenjphmlgaaPart18
import Derived.Deep.RegionHeld3
import Derived.Test.YtbmohenjphmlgaaPart23
import Derived.Test.YtbmohenjphmlgaaPart24
/- The walk of table (of the document's own answer): the pairs that count, or what is wrong. -/
namespace Go.Proofs.Ytbmohenjphmlgaa
open Go.RowKit
set_option maxRecDepth 100000

theorem brdX_of_bown {P : Nat → Prop} {w : World} {base : Nat} {v : Value} {l : List UInt8} (h : Bown w base v l) (hP : ∀ b, base ≤ b → P b) : BrdX P w.heap.size w v l := by
  rcases brdC_of_bown h with h0 | ⟨b, off, cap, hv, hcap, hb, hcell⟩
  · exact .inl h0
  · refine .inr ⟨b, off, cap, hv, hcap, hb, hP b ?_, hcell⟩
    rcases h.2 with ⟨hv', _⟩ | ⟨g', cap', cur, hv', hbg, _⟩
    · rw [hv'] at hv; cases hv
    · rw [hv'] at hv
      simp only [Value.slice.injEq, Option.some.injEq, Addr.mk.injEq] at hv
      omega

/-- What table tells. -/
def TabPost (l : List (ByteArray × ByteArray)) (w : World) (e : Ending) (w' : World) : Prop := Below w.heap.size w w' ∧
  (tfault l ⟨#[]⟩ ≠ 0 → e = .returned (.tuple #[.slice none 0 0, .int .i64 (tfault l ⟨#[]⟩ : Nat)])) ∧
  (tfault l ⟨#[]⟩ = 0 → ∃ a' cap', e = .returned (.tuple #[.slice a' (Tr.table (lists l)).length cap', .int .i64 0]) ∧ ERd w'.heap.size w' a' (Tr.table (lists l)))

theorem tabPost_bad {l : List (ByteArray × ByteArray)} {w w' : World} {n : Nat} (h : tfault l ⟨#[]⟩ = n) (hn : n ≠ 0) (hb : Below w.heap.size w w') : TabPost l w (.returned (.tuple #[.slice none 0 0, .int .i64 (n : Int)])) w' :=
  ⟨hb, fun _ => by rw [h], fun h0 => absurd (h.symm.trans h0) hn⟩

/-- Is the k-th key none of those behind it, up to the m-th? -/
def lastTo (l : List (ByteArray × ByteArray)) (key : ByteArray) (k m : Nat) : Bool := decide (∀ j, (hj : j < l.length) → k < j → j < m → l[j].1 ≠ key)

theorem lastTo_start (l : List (ByteArray × ByteArray)) (key : ByteArray) (k : Nat) : lastTo l key k (k + 1) = true := decide_eq_true fun j _ h1 h2 => by omega

theorem lastTo_succ (l : List (ByteArray × ByteArray)) (key : ByteArray) (k m : Nat) (hm : m < l.length) (hk : k < m) : lastTo l key k (m + 1) = (lastTo l key k m && decide (l[m].1 ≠ key)) := by
  unfold lastTo
  rw [← Bool.decide_and]
  refine decide_eq_decide.2 ⟨fun h => ⟨fun j hj h1 h2 => h j hj h1 (by omega), h m hm hk (by omega)⟩, fun h j hj h1 h2 => ?_⟩
  by_cases hjm : j = m
  · subst hjm; exact h.2
  · exact h.1 j hj h1 (by omega)

theorem baR_ext {a b : ByteArray} (h : a.data.toList = b.data.toList) : a = b := by cases a; cases b; simp_all

theorem lastTo_counts (l : List (ByteArray × ByteArray)) (k : Nat) (hk : k < l.length) : counts l l[k] k ↔ lastTo l l[k].1 k l.length = true ∧ l[k].2.data.toList ≠ [] := by
  unfold counts lastTo
  rw [decide_eq_true_eq]
  refine and_congr_left fun _ => ⟨fun h j hj h1 _ he => h ?_, fun h hin => ?_⟩
  · refine List.mem_map.2 ⟨l[j], ?_, by rw [he]⟩
    rw [List.mem_iff_getElem]
    refine ⟨j - (k + 1), by rw [List.length_drop]; omega, ?_⟩
    rw [List.getElem_drop]
    congr 1
    omega
  · obtain ⟨q, hq, hqk⟩ := List.mem_map.1 hin
    obtain ⟨j, hj, rfl⟩ := List.getElem_of_mem hq
    rw [List.length_drop] at hj
    rw [List.getElem_drop] at hqk
    exact h (k + 1 + j) (by omega) (by omega) (by omega) (baR_ext hqk)

theorem tabTo_len (l : List (ByteArray × ByteArray)) (k : Nat) : (tabTo l k).length ≤ k := by
  unfold tabTo
  exact Nat.le_trans (List.length_filterMap_le _ _) (by simp)

theorem tfault_key' {l : List (ByteArray × ByteArray)} (h : ¬ 60 < l.length) (k : Nat) (hk : k < l.length) (h2 : 6 < l[k].1.size) : tfault l ⟨#[]⟩ = 3 := tfault_key h (.inl ⟨_, List.getElem_mem hk, h2⟩)

set_option maxHeartbeats 12800000 in
theorem tableR_any (a : Option Addr) (cap : Nat) (l : List (ByteArray × ByteArray)) (w : World) (hr : PRd w.heap.size w a l) (hl : l.length ≤ 4398046511104) : Calls Try.prog 54 #[.slice a l.length cap] w (TabPost l w) := by
  have HR := hid hr
  clear hr
  by_cases h60 : 60 < l.length
  · have HT := hid (tfault_many (key := ⟨#[]⟩) h60)
    have i0 : (60 : Int) < (l.length : Int) := by omega
    go_enter Try.func54, Try.ntmps54
    go_wp2_with fail
    go_ret2
    exact tabPost_bad HT.out (by decide) (Below.refl _ _)
  have i0 : ¬ (60 : Int) < (l.length : Int) := by omega
  have H60 := hid h60
  go_enter Try.func54, Try.ntmps54
  go_wp2_with fail
  go_loopw [4] (fun i wr => ∃ k : Nat, i = .int .i64 k ∧ k ≤ l.length ∧ wr = w ∧ Hid (∀ j (hj : j < l.length), j < k → ¬ 6 < l[j].1.size)) (fun i _ => l.length - (intOf i).toNat)
  case atStart => exact ⟨0, rfl, Nat.zero_le _, rfl, fun j _ h => by omega⟩
  case round =>
    obtain ⟨k, rfl, hk, rfl, HK⟩ := hrel
    by_cases hlt : k < l.length
    · obtain ⟨b, off, rfl, hb, e0, e1⟩ := HR.out k hlt
      have i1 : (0 : Int) ≤ (k : Int) := by omega
      have i2 : (k : Int) < (l.length : Int) := by omega
      by_cases h6 : 6 < l[k].1.size
      · have HT := hid (tfault_key' H60.out k hlt h6)
        have i3 : (6 : Int) < (l[k].1.size : Int) := by omega
        go_wp2_with fail
        go_ret2
        exact tabPost_bad HT.out (by decide) (Below.refl _ _)
      · have i3 : ¬ (6 : Int) < (l[k].1.size : Int) := by omega
        have HK2 : Hid (∀ j (hj : j < l.length), j < k + 1 → ¬ 6 < l[j].1.size) := by
          intro j hj hjk
          by_cases h : j < k
          · exact HK.out j hj h
          · obtain rfl : j = k := by omega
            exact h6
        go_wp2_with fail
        exact ⟨⟨k + 1, by go_num, by omega, trivial, HK2.out⟩, by simp [intOf]; omega⟩
    · have i2 : ¬ (k : Int) < (l.length : Int) := by omega
      have HKEY : Hid (∀ p ∈ l, ¬ 6 < p.1.size) := by
        intro p hp
        obtain ⟨j, hj, rfl⟩ := List.getElem_of_mem hp
        exact HK.out j hj (by omega)
      clear HK
      generalize wr = w at *
      go_wp2_with fail
      go_loopw [5, 6] (fun v i wr => ∃ (k : Nat) (ps : List (Value × ByteArray)), i = .int .i64 k ∧ k ≤ l.length ∧ Hid ((∀ j (hj : j < l.length), j < k → ¬ 40 < l[j].2.size) ∧ EOwn wr w.heap.size v ps ∧ EntsOf (fun x => v.ownBlock ≠ some x) wr.heap.size wr ps (ents (tabTo l k)) ∧ Below w.heap.size w wr)) (fun _ i _ => l.length - (intOf i).toNat)
      case atStart => exact ⟨0, [], rfl, Nat.zero_le _, fun j _ h => (by omega), eown_nil _ _, entsR_nil _ _ _, Below.refl _ _⟩
      case round =>
        obtain ⟨k, ps, rfl, hk, HH⟩ := hrel
        obtain ⟨av, cv, hv, _⟩ := eown_shape HH.out.2.1
        subst hv
        by_cases hlt : k < l.length
        · obtain ⟨b, off, rfl, hb, e0, e1⟩ := HR.out k hlt
          have i1 : (0 : Int) ≤ (k : Int) := by omega
          have i2 : (k : Int) < (l.length : Int) := by omega
          have f1 := (HH.out.2.2.2.cell (p := ⟨b, off + k * 2 + 1, none⟩) hb).trans e1
          have hbw : b < wr.heap.size := Nat.lt_of_lt_of_le hb HH.out.2.2.2.size
          by_cases h40 : 40 < l[k].2.size
          · have HT := hid (tfault_value (key := ⟨#[]⟩) H60.out HKEY.out (by decide) ⟨_, List.getElem_mem hlt, h40⟩)
            have i3 : (40 : Int) < (l[k].2.size : Int) := by omega
            go_wp2_with fail
            go_ret2
            exact tabPost_bad HT.out (by decide) HH.out.2.2.2
          · have i3 : ¬ (40 : Int) < (l[k].2.size : Int) := by omega
            have HV2 : Hid (∀ j (hj : j < l.length), j < k + 1 → ¬ 40 < l[j].2.size) := by
              intro j hj hjk
              by_cases h : j < k
              · exact HH.out.1 j hj h
              · obtain rfl : j = k := by omega
                exact h40
            have HE0 := hid e0
            have HE1 := hid e1
            have HSTA := hid (lastTo_start l l[k].1 k)
            have hk6 := HKEY.out _ (List.getElem_mem hlt)
            have HCO := hid (lastTo_counts l k hlt)
            have HTS := hid (tabTo_succ hlt)
            clear e0 e1
            go_wp2_with fail
            go_loopw [7, 8] (fun la j wi => ∃ m : Nat, la = .bool (lastTo l l[k].1 k m) ∧ j = .int .i64 m ∧ k + 1 ≤ m ∧ m ≤ l.length ∧ Hid (EOwn wi w.heap.size (.slice av ps.length cv) ps ∧ EntsOf (fun x => (Value.slice av ps.length cv).ownBlock ≠ some x) wi.heap.size wi ps (ents (tabTo l k)) ∧ Below w.heap.size w wi)) (fun _ j _ => l.length - (intOf j).toNat)
            case atStart => exact ⟨k + 1, by rw [HSTA.out], by go_num, Nat.le_refl _, by omega, HH.out.2⟩
            case round =>
              obtain ⟨m, rfl, rfl, hm1, hm2, HI⟩ := hrel
              clear f1 hbw
              have z0 := (HI.out.2.2.cell (p := ⟨b, off + k * 2, none⟩) hb).trans HE0.out
              have z1 := (HI.out.2.2.cell (p := ⟨b, off + k * 2 + 1, none⟩) hb).trans HE1.out
              have hbw : b < wr.heap.size := Nat.lt_of_lt_of_le hb HI.out.2.2.size
              by_cases hlt2 : m < l.length
              · obtain ⟨b', off', hab, hbm, g0, _⟩ := HR.out m hlt2
                simp only [Option.some.injEq, Addr.mk.injEq, and_true] at hab
                obtain ⟨rfl, rfl⟩ := hab
                have y0 := (HI.out.2.2.cell (p := ⟨b, off + m * 2, none⟩) hb).trans g0
                have j1 : (0 : Int) ≤ (m : Int) := by omega
                have j2 : (m : Int) < (l.length : Int) := by omega
                have HSU := hid (lastTo_succ l l[k].1 k m hlt2 (by omega))
                clear g0
                cases hla : lastTo l l[k].1 k m with
                | false =>
                  have HT : Hid (lastTo l l[k].1 k (m + 1) = false) := by rw [Hid, HSU.out, hla]; rfl
                  clear hla HSU
                  go_wp2_with fail
                  go_quiet (fail)
                  go_wp2_with fail
                  exact ⟨⟨m + 1, by rw [HT.out], by go_num, by omega, by omega, HI.out.1, HI.out.2.1, below_drewN HI.out.2.2 _⟩, by simp [intOf]; omega⟩
                | true =>
                  by_cases heq : l[m].1 = l[k].1
                  · have HT : Hid (lastTo l l[k].1 k (m + 1) = false) := by rw [Hid, HSU.out, hla, heq]; simp
                    have hbq : (l[m].1.toList == l[k].1.toList) = true := by rw [heq]; exact beq_self_eq_true _
                    clear hla HSU heq
                    go_wp2_with fail
                    go_quiet (fail)
                    go_wp2_with fail
                    exact ⟨⟨m + 1, by rw [HT.out], by go_num, by omega, by omega, HI.out.1, HI.out.2.1, below_drewN HI.out.2.2 _⟩, by simp [intOf]; omega⟩
                  · have HT : Hid (lastTo l l[k].1 k (m + 1) = true) := by rw [Hid, HSU.out, hla, decide_eq_true heq]; rfl
                    have hbq : (l[m].1.toList == l[k].1.toList) = false := by
                      rw [beq_eq_false_iff_ne, ByteArray.toList_eq, ByteArray.toList_eq]
                      exact fun h => heq (baR_ext h)
                    clear hla HSU heq
                    go_wp2_with fail
                    go_quiet (fail)
                    go_wp2_with fail
                    exact ⟨⟨m + 1, by rw [HT.out], by go_num, by omega, by omega, HI.out.1, HI.out.2.1, below_drewN HI.out.2.2 _⟩, by simp [intOf]; omega⟩
              · obtain rfl : m = l.length := by omega
                have j2 : ¬ (l.length : Int) < (l.length : Int) := by omega
                clear hlt2 hm1 hm2 HSTA
                have HSKIP : Hid (¬ counts l l[k] k → EntsOf (fun x => (Value.slice av ps.length cv).ownBlock ≠ some x) wr.heap.size wr ps (ents (tabTo l (k + 1)))) := by
                  intro hc
                  rw [HTS.out, if_neg hc, List.append_nil]
                  exact HI.out.2.1
                by_cases hv0 : l[k].2.data.toList = []
                · have HC := hid (HSKIP.out (fun h => h.2 hv0))
                  have hve : l[k].2.toList.isEmpty = true := by rw [ByteArray.toList_eq, hv0]; rfl
                  clear HSKIP HCO hv0
                  cases hla : lastTo l l[k].1 k l.length
                  all_goals
                    clear hla
                    go_wp2_with fail
                    exact ⟨⟨k + 1, ps, by go_num, by omega, HV2.out, HI.out.1, HC.out, HI.out.2.2⟩, by simp [intOf]; omega⟩
                · have hve : l[k].2.toList.isEmpty = false := by
                    rw [ByteArray.toList_eq]
                    cases hx : l[k].2.data.toList with
                    | nil => exact absurd hx hv0
                    | cons c r => rfl
                  cases hla : lastTo l l[k].1 k l.length with
                  | false =>
                    have HC := hid (HSKIP.out (fun h => by have := (HCO.out.1 h).1; rw [hla] at this; cases this))
                    clear hla HSKIP HCO hv0
                    go_wp2_with fail
                    exact ⟨⟨k + 1, ps, by go_num, by omega, HV2.out, HI.out.1, HC.out, HI.out.2.2⟩, by simp [intOf]; omega⟩
                  | true =>
                    have HC := hid (HCO.out.2 ⟨hla, hv0⟩)
                    have HDG := hid (fun w => digits_any l[k].1 w (by omega))
                    have HTB : Hid (ents (tabTo l (k + 1)) = ents (tabTo l k) ++ [⟨Tr.digits l[k].1.data.toList, l[k].2.data.toList⟩]) := by
                      rw [Hid, HTS.out, if_pos HC.out]
                      unfold ents
                      rw [List.map_append]
                      rfl
                    have HLP : Hid (ps.length ≤ 1000000) := by
                      rw [Hid, HI.out.2.1.1]
                      unfold ents
                      rw [List.length_map]
                      have := tabTo_len l k
                      omega
                    have hws : w.heap.size ≤ wr.heap.size := HI.out.2.2.size
                    clear hla HSKIP HCO hv0 HTS
                    obtain ⟨K0, hK0⟩ : ∃ K0, K0 = l[k].1 := ⟨_, rfl⟩
                    obtain ⟨V, hV⟩ : ∃ V, V = l[k].2 := ⟨_, rfl⟩
                    rw [← hK0] at HDG HTB z0
                    rw [← hV] at HTB z1 hve
                    rw [← hV]
                    clear hK0 hV
                    go_wp2_with fail
                    go_region_held3 (fun w' => w'.cell? ⟨b, off + k * 2, none⟩ = some (.string K0) ∧ w'.cell? ⟨b, off + k * 2 + 1, none⟩ = some (.string V)) (go_keep)
                      ((first
                        | (go_at_call 58; refine (HDG.out _).mono ?_; rintro e' w3 ⟨ad, cd, rfl, bo3, b3⟩; have HB3 : Hid (Below wr.heap.size wr w3) := below_undrew b3; have HBO3 := hid bo3; have HO3 := hid (eown_later HI.out.1 HB3.out); have hw3 : w.heap.size ≤ w3.heap.size := Nat.le_trans hws HB3.out.size; have y0 := (HB3.out.cell (p := ⟨b, off + k * 2, none⟩) hbw).trans z0; have y1 := (HB3.out.cell (p := ⟨b, off + k * 2 + 1, none⟩) hbw).trans z1; clear bo3 b3)
                        | (refine step_push_ent (wr := w3) rfl (.tmp 69) (.tmp 82) rfl (.slice ad (Tr.digits K0.data.toList).length cd) V rfl w3.heap.size rfl rfl rfl HO3.out hw3 HLP.out ?_; intro v' w' ho' hb' hk' hn' hz'; have HO' := hid ho'; have HB' := hid hb'; have HK' := hid (And.intro hk' (And.intro hn' hz')); have y2 := (hb'.cell (p := ⟨b, off + k * 2, none⟩) hb).trans y0; have y3 := (hb'.cell (p := ⟨b, off + k * 2 + 1, none⟩) hb).trans y1; clear ho' hb' hk' hn' hz')))
                    all_goals go_wp2_with fail
                    all_goals
                      have hown := eown_lt HI.out.1
                      have hbx := brdX_of_bown (P := fun x => (Value.slice av ps.length cv).ownBlock ≠ some x) HBO3.out (fun x hx e => by have h := (hown x e).2; have hx' : wr.heap.size ≤ x := hx; omega)
                      have hen := ents_turn (w' := w3) HI.out.2.1 HB3.out.size (fun _ _ h => h) (fun x hx _ => HB3.out.block x hx)
                      refine ⟨⟨k + 1, _, by go_num, by omega, HV2.out, HO'.out, ?_, HI.out.2.2.trans ((HB3.out.mono hws).trans HB'.out)⟩, by simp [intOf]; omega⟩
                      rw [HTB.out]
                      exact ents_turn (ents_snoc hen rfl hbx) HK'.out.2.2 (fun x hx hp e => (HK'.out.2.1 x e).elim hp (fun h => by omega)) HK'.out.1
        · obtain rfl : k = l.length := by omega
          have i2 : ¬ (l.length : Int) < (l.length : Int) := by omega
          have HE := hid HH.out.2.2.1
          rw [tabTo_table] at HE
          have HT : Hid (tfault l ⟨#[]⟩ = 0) := tfault_ok H60.out HKEY.out (by decide) (fun p hp => by
            obtain ⟨j, hj, rfl⟩ := List.getElem_of_mem hp
            exact HH.out.1 j hj hj)
          have HPL : Hid (ps.length = (Tr.table (lists l)).length) := HE.out.1
          have HO := hid HH.out.2.1
          have HB := hid HH.out.2.2.2
          clear HH hlt
          go_wp2_with fail
          go_ret2
          exact ⟨HB.out, fun h => absurd HT.out h, fun _ => ⟨av, cv, by rw [← HPL.out]; rfl, erd_of HO.out HE.out (Nat.le_refl _)⟩⟩
end Go.Proofs.Ytbmohenjphmlgaa

/- The walks of Root, Prove, Verify that are refused (of the program). -/
namespace Go.Proofs.Ytbmohenjphmlgaa
open Go.RowKit
set_option maxRecDepth 100000

theorem root_fault {a : Option Addr} {n cap : Nat} {w : World} {N : Nat} (hN : N ≠ 0) (h : Calls Try.prog 72 #[.slice a n cap, .string ⟨#[]⟩] w fun e w' => e = .returned (.int .i64 N) ∧ Below w.heap.size w w') :
    Calls Try.prog 24 #[.slice a n cap] w fun e w' => e = .returned (.tuple #[.string ⟨#[]⟩, .int .i64 N]) ∧ Below w.heap.size w w' := by
  have H1 : Calls Try.prog 53 #[.slice a n cap] w fun e w' => e = .returned (.tuple #[.string ⟨#[]⟩, .int .i64 N]) ∧ Below w.heap.size w w' := by
    have H := hid h
    have hN' : ¬ (N : Int) = 0 := by omega
    clear h hN
    go_enter Try.func53, Try.ntmps53
    go_wp2_with fail
    refine H.out.mono ?_
    rintro e w1 ⟨rfl, b1⟩
    have HB := hid b1
    clear b1
    go_wp2_with fail
    go_ret2
    exact ⟨rfl, HB.out⟩
  have H := hid H1
  clear h H1
  go_enter Try.func24, Try.ntmps24
  go_wp2_with fail
  refine H.out.mono ?_
  rintro e w1 ⟨rfl, b1⟩
  have HB := hid b1
  clear b1
  go_wp2_with fail
  go_ret2
  exact ⟨rfl, HB.out⟩

theorem prove_fault {a : Option Addr} {n cap : Nat} {key : ByteArray} {w : World} {N : Nat} (hN : N ≠ 0) (h : Calls Try.prog 72 #[.slice a n cap, .string key] w fun e w' => e = .returned (.int .i64 N) ∧ Below w.heap.size w w') :
    Calls Try.prog 27 #[.slice a n cap, .string key] w fun e w' => e = .returned (.tuple #[.slice none 0 0, .int .i64 N]) ∧ Below w.heap.size w w' := by
  have H1 : Calls Try.prog 57 #[.slice a n cap, .string key] w fun e w' => e = .returned (.tuple #[.slice none 0 0, .int .i64 N]) ∧ Below w.heap.size w w' := by
    have H := hid h
    have hN' : ¬ (N : Int) = 0 := by omega
    clear h hN
    go_enter Try.func57, Try.ntmps57
    go_wp2_with fail
    refine H.out.mono ?_
    rintro e w1 ⟨rfl, b1⟩
    have HB := hid b1
    clear b1
    go_wp2_with fail
    go_ret2
    exact ⟨rfl, HB.out⟩
  have H := hid H1
  clear h H1
  go_enter Try.func27, Try.ntmps27
  go_wp2_with fail
  refine H.out.mono ?_
  rintro e w1 ⟨rfl, b1⟩
  have HB := hid b1
  clear b1
  go_wp2_with fail
  go_ret2
  exact ⟨rfl, HB.out⟩

/-- Verify hands on what check tells. -/
theorem verify_out {root key : ByteArray} {v : Value} {w : World} {Q : ByteArray → Int → World → Prop} (h : Calls Try.prog 80 #[.string root, .string key, v] w fun e w' => ∃ a n cap s m, e = .returned (.tuple #[.slice a n cap, .string s, .int .i64 m]) ∧ Q s m w') :
    Calls Try.prog 32 #[.string root, .string key, v] w fun e w' => ∃ s m, e = .returned (.tuple #[.string s, .bool (!(s.toList == [])), .int .i64 m]) ∧ Q s m w' := by
  have H1 : Calls Try.prog 61 #[.string root, .string key, v] w fun e w' => ∃ s m, e = .returned (.tuple #[.string s, .bool (!(s.toList == [])), .int .i64 m]) ∧ Q s m w' := by
    have H := hid h
    clear h
    go_enter Try.func61, Try.ntmps61
    go_wp2_with fail
    refine H.out.mono ?_
    rintro e w1 ⟨a, n, cap, s, m, rfl, q⟩
    have HQ := hid q
    clear q
    go_wp2_with fail
    refine bodyPost_ret (v := .tuple #[.string s, .bool (!(s.toList == [])), .int .i64 m]) (by simp [results, Try.results61, go_sem]) rfl ?_
    exact ⟨s, m, rfl, HQ.out⟩
  have H := hid H1
  clear h H1
  go_enter Try.func32, Try.ntmps32
  go_wp2_with fail
  refine H.out.mono ?_
  rintro e w1 ⟨s, m, rfl, q⟩
  have HQ := hid q
  clear q
  go_wp2_with fail
  refine bodyPost_ret (v := .tuple #[.string s, .bool (!(s.toList == [])), .int .i64 m]) (by simp [results, Try.results32, go_sem]) rfl ?_
  exact ⟨s, m, rfl, HQ.out⟩

theorem check_fault {root key : ByteArray} {v : Value} {w : World} {N : Nat} (hN : N ≠ 0) (h : Calls Try.prog 103 #[.string root, .string key, v] w fun e w' => e = .returned (.int .i64 N) ∧ w' = w) :
    Calls Try.prog 80 #[.string root, .string key, v] w fun e w' => e = .returned (.tuple #[.slice none 0 0, .string ⟨#[]⟩, .int .i64 N]) ∧ Below w.heap.size w w' := by
  have H := hid h
  have hN' : ¬ (N : Int) = 0 := by omega
  clear h hN
  go_enter Try.func80, Try.ntmps80
  go_wp2_with fail
  refine H.out.mono ?_
  rintro e w1 ⟨rfl, hw⟩
  obtain rfl := hw.symm
  go_wp2_with fail
  refine bodyPost_ret (v := .tuple #[.slice none 0 0, .string ⟨#[]⟩, .int .i64 N]) (by simp [results, Try.results80, go_sem]) rfl ?_
  exact ⟨rfl, Below.refl _ _⟩

theorem verify_fault {root key : ByteArray} {v : Value} {w : World} {N : Nat} (hN : N ≠ 0) (h : Calls Try.prog 103 #[.string root, .string key, v] w fun e w' => e = .returned (.int .i64 N) ∧ w' = w) :
    Calls Try.prog 32 #[.string root, .string key, v] w fun e w' => ∃ s b, e = .returned (.tuple #[.string s, .bool b, .int .i64 N]) ∧ Below w.heap.size w w' := by
  refine (verify_out (Q := fun s m w' => m = N ∧ Below w.heap.size w w') ((check_fault hN h).mono ?_)).mono ?_
  · rintro e w' ⟨rfl, hb⟩; exact ⟨_, _, _, _, _, rfl, rfl, hb⟩
  · rintro e w' ⟨s, m, rfl, rfl, hb⟩; exact ⟨s, _, rfl, hb⟩

end Go.Proofs.Ytbmohenjphmlgaa

/- The walk of tableOf (of the program). -/
namespace Go.Proofs.Ytbmohenjphmlgaa
open Go.RowKit Go.Maps
set_option maxRecDepth 100000

theorem lawText : Keyed Try.prog 9 := string_keyed Try.underlying9
theorem zeroInt (w : World) : (zeroValue 3).run Try.prog w = .ok (.int .i64 0) w := by kernel_rfl

/-- The map of last places. -/
def LastMap (w : World) (b : Nat) (l : List (ByteArray × ByteArray)) (k : Nat) (D : DataW Unit) : Prop :=
  w.ownsMap Try.prog 9 (plainElem Try.prog 3) b k D ∧ ∀ key : List UInt8, D.atKey (.string key) (.lit (.int .i64 0)) = .lit (.int .i64 (lastAt l key k : Nat))

theorem lastMap_start (w : World) (l : List (ByteArray × ByteArray)) : LastMap (w.alloc (.map #[] 0)) w.heap.size l 0 (.map []) := ⟨World.ownsMap_made _ _ _ _, fun _ => rfl⟩

theorem lastMap_next {w w' : World} {b : Nat} {l : List (ByteArray × ByteArray)} {k : Nat} {D : DataW Unit} (h : LastMap w b l k D) (hk : k < l.length) (ho : w'.ownsMap Try.prog 9 (plainElem Try.prog 3) b (k + 1) (D.put (.string l[k].1.data.toList) (.lit (.int .i64 k)))) : LastMap w' b l (k + 1) (D.put (.string l[k].1.data.toList) (.lit (.int .i64 k))) := by
  refine ⟨ho, fun key => ?_⟩
  unfold lastAt
  rw [List.getElem?_eq_getElem hk]
  by_cases hkey : l[k].1.data.toList = key
  · subst hkey
    rw [atKey_put_same (k := .string l[k].1.data.toList) h.1.isMap trivial, if_pos (show Option.map (fun p : ByteArray × ByteArray => p.1.data.toList) (some l[k]) = some l[k].1.data.toList from rfl)]
  · rw [atKey_put_other (fun e => hkey (by cases e; rfl)), if_neg (fun e => hkey (by simpa using e))]
    exact h.2 key

theorem lastMap_kept {w w' : World} {b : Nat} {l : List (ByteArray × ByteArray)} {k : Nat} {D : DataW Unit} (h : LastMap w b l k D) (hb : w'.heap[b]? = w.heap[b]?) : LastMap w' b l k D := by
  obtain ⟨⟨es, clock, h1, h2⟩, h3⟩ := h
  exact ⟨⟨es, clock, hb.trans h1, h2⟩, h3⟩

/-- A pair that was just laid is appended to a row of the call's own: at a step of a region that draws. -/
theorem step_push_pair {ops : Array Oper} {o : Oper} {act : Act} {K : Act → World → Prop} {Q' : Exit → Act → World → Prop} {E : Prop} (hgd : o.guard = none) (s x : Operand)
    (hop : o.op = .call { callee := .builtin .append, args := #[s, x], argTypes := #[111, 111] }) {W wr : World} {B : Nat} {v1 : Value} {l1 : List (ByteArray × ByteArray)} (p : ByteArray × ByteArray) (L : Nat) (hL : wr.heap.size = L)
    (hs : act.eval s = v1) (hx : act.eval x = .slice (some ⟨L, 0, none⟩) 1 1) (ho : POwn wr B v1 l1) (hb : Below B W wr) (hB : B ≤ W.heap.size) (hlen : l1.length ≤ 1000000)
    (h : ∀ v' w', POwn w' B v' (l1 ++ [p]) → Below B W w' → (∀ k, k < wr.heap.size → v1.ownBlock ≠ some k → w'.heap[k]? = wr.heap[k]?) → K (act.put o.dst v') w') : if Region.wanted o (yielded ops act.tmps) = true then Oper.wp Try.prog o act (wr.alloc (.cells #[.string p.1, .string p.2] 133)) K Q' else E := by
  subst hL
  have hw : Region.wanted o (yielded ops act.tmps) = true := by simp [Region.wanted, hgd]
  rw [if_pos hw]
  obtain ⟨i0, hi, hz0, hz1, hz2⟩ := info_parts infoPair
  have hb2 : Below B W (wr.alloc (.cells #[.string p.1, .string p.2] 133)) := hb.alloc (Nat.le_trans hB hb.size) _
  have hBw : B ≤ (wr.alloc (.cells #[.string p.1, .string p.2] 133)).heap.size := Nat.le_trans hB hb2.size
  have ho2 : POwn (wr.alloc (.cells #[.string p.1, .string p.2] 133)) B v1 l1 := pown_frame ho (fun g hg => Below.heap_alloc _ _ _ (pown_lt ho g hg).2)
  obtain ⟨v', w', hr, h2, h3, _⟩ := run_append_mine (P := Try.prog) _ B 111 o.type 133 i0 _ 2 32 Try.underlying111 hi hz0 hz1 hz2 rfl (by decide) v1 l1.length (pcells l1) ho2 ⟨wr.heap.size, 0, none⟩ 1 1 [.string p.1, .string p.2] rfl (cells_two _ _ _ _) (by simp [Value.oneCell']) (by unfold maxLen; omega) (by omega) hBw
  unfold Oper.wp execOp
  simp only [hop, resolve, invoke, builtin, Sem.run_bind, Sem.run_pure, Result.andThen_ok, List.map_toArray, List.map_cons, List.map_nil, hs, hx, hr]
  refine h v' w' ?_ (hb2.grown h3 hBw (fun g hgg => (pown_lt ho g hgg).1)) (fun k hk hne => (h3.block k (by rw [alloc_size]; omega) (fun e => hne e.symm)).trans (Below.heap_alloc _ _ _ hk))
  unfold POwn
  rw [List.length_append, pcells_snoc]
  exact h2

theorem tabTo_le (l : List (ByteArray × ByteArray)) (k : Nat) : (tabTo l k).length ≤ k := by
  unfold tabTo
  have := List.length_filterMap_le (fun i => match l[i]? with | some p => if counts l p i then some (digB p) else none | none => none) (List.range k)
  rwa [List.length_range] at this

theorem cellB {w w' : World} {b off : Nat} (h : w'.heap[b]? = w.heap[b]?) : w'.cell? ⟨b, off, none⟩ = w.cell? ⟨b, off, none⟩ := World.cell?_of_block (w := w) h

set_option maxHeartbeats 3200000 in
theorem tableOf_any (a : Option Addr) (cap : Nat) (l : List (ByteArray × ByteArray)) (w : World) (hr : PRd w.heap.size w a l) (hl : l.length ≤ 1000) (hz : ∀ p ∈ l, p.1.size ≤ 1000) : Calls Try.prog 74 #[.slice a l.length cap] w fun e w' => ∃ v, e = .returned v ∧ POwn w' w.heap.size v (tabTo l l.length) ∧ Below w.heap.size w w' := by
  have HR := hid hr
  have HZ := hid hz
  have HD := hid (fun s w h => digitsOf_any s w h)
  have hmm := @run_makeMap Try.prog
  have HM0 := hid (lastMap_start w l)
  clear hr hz
  go_enter Try.func74, Try.ntmps74
  go_wp2_with fail
  go_loopw [5, 12] (fun _ i wr => ∃ k : Nat, i = .int .i64 k ∧ k ≤ l.length ∧ Hid (∃ D, LastMap wr w.heap.size l k D ∧ Below w.heap.size w wr)) (fun _ i _ => l.length - (intOf i).toNat)
  case atStart => exact ⟨0, rfl, Nat.zero_le _, _, HM0.out, (Below.refl _ _).alloc (Nat.le_refl _) _⟩
  case round =>
    obtain ⟨k, rfl, hk, HH⟩ := hrel
    by_cases hlt : k < l.length
    · obtain ⟨b, off, rfl, hb, e0, e1⟩ := HR.out k hlt
      obtain ⟨D, hD, hB⟩ := HH.out
      have f0 := (hB.cell (p := ⟨b, off + k * 2, none⟩) hb).trans e0
      have f1 := (hB.cell (p := ⟨b, off + k * 2 + 1, none⟩) hb).trans e1
      have i1 : (0 : Int) ≤ (k : Int) := by omega
      have i2 : (k : Int) < (l.length : Int) := by omega
      have HDM := hid hD
      have HDB := hid hB
      have HDA := hid (lastMap_kept (w' := wr.alloc (.cells #[.string l[k].1, .string l[k].2] 72)) hD (Below.heap_alloc _ _ _ hD.1.lt))
      have hkey : keyOf Try.prog 9 (.string l[k].1) = some (.string l[k].1.data.toList) := Go.WideMaps.keyOf_string_mk Try.underlying9 (by have := HZ.out _ (List.getElem_mem hlt); unfold maxLen; omega)
      clear e0 e1 hD hB HH
      go_wp2_with (at_mapUpdate; go_loud (refine wpList_mapUpdate_own _ rfl _ _ _ 146 rfl 9 3 lawText Try.underlying146 _ w.heap.size k _ rfl HDA.out.1 (by unfold maxLen; omega) _ _ _ rfl rfl hkey _ [] (plainElem_int Try.underlying3 (WalkArith.wf_i64 (by omega))) ?_); intro w1 hown1 hgrow1; have HO1 := hid hown1; have HG1 := hid hgrow1; clear hown1 hgrow1)
      exact ⟨⟨k + 1, by go_num, by omega, _, lastMap_next HDM.out hlt HO1.out, (HDB.out.alloc HDB.out.size _).grown HG1.out (by have := HDB.out.size; rw [alloc_size]; omega) (fun j hj => by cases hj; exact Nat.le_refl _)⟩, by simp [intOf]; omega⟩
    · have i2 : ¬ (k : Int) < (l.length : Int) := by omega
      obtain rfl : k = l.length := by omega
      obtain ⟨D, hD, hB⟩ := HH.out
      have HDM := hid hD
      have HDB := hid hB
      have HBS : Hid (w.heap.size + 1 ≤ wr.heap.size) := hD.1.lt
      clear hD hB HH hlt hk
      generalize wr = W2 at *
      go_wp2_with fail
      go_loopw [6, 8, 24] (fun v _ i wx => ∃ m : Nat, i = .int .i64 m ∧ m ≤ l.length ∧ Hid (POwn wx (w.heap.size + 1) v (tabTo l m) ∧ Below (w.heap.size + 1) W2 wx)) (fun _ _ i _ => l.length - (intOf i).toNat)
      case atStart => exact ⟨0, rfl, Nat.zero_le _, pown_nil _ _, Below.refl _ _⟩
      case round =>
        obtain ⟨m, rfl, hm, HV⟩ := hrel
        obtain ⟨av, cv, hv⟩ := pown_shape HV.out.1
        subst hv
        by_cases hlt : m < l.length
        · obtain ⟨b, off, rfl, hb, e0, e1⟩ := HR.out m hlt
          have HBW : Hid (Below w.heap.size w wr) := HDB.out.trans (HV.out.2.mono (Nat.le_succ _))
          have f0 := (HBW.out.cell (p := ⟨b, off + m * 2, none⟩) hb).trans e0
          have f1 := (HBW.out.cell (p := ⟨b, off + m * 2 + 1, none⟩) hb).trans e1
          have i1 : (0 : Int) ≤ (m : Int) := by omega
          have i3 : (m : Int) < (l.length : Int) := by omega
          have hkey : keyOf Try.prog 9 (.string l[m].1) = some (.string l[m].1.data.toList) := Go.WideMaps.keyOf_string_mk Try.underlying9 (by have := HZ.out _ (List.getElem_mem hlt); unfold maxLen; omega)
          have HDA : Hid (LastMap (wr.alloc (.cells #[.string l[m].1, .string l[m].2] 72)) w.heap.size l l.length D) := lastMap_kept HDM.out ((Below.heap_alloc _ _ _ (by have := HV.out.2.size; have := HBS.out; omega)).trans (HV.out.2.block _ (by omega)))
          have HTS := hid (tabTo_succ hlt)
          have HCT := hid (counts_iff hlt)
          have HLE : Hid ((tabTo l m).length ≤ 1000000) := by have := tabTo_le l m; rw [Hid]; omega
          clear e0 e1
          obtain ⟨q, hq⟩ : ∃ q, q = lastAt l l[m].1.data.toList l.length := ⟨_, rfl⟩
          have HLM : Hid (D.atKey (.string l[m].1.data.toList) (.lit (.int .i64 0)) = .lit (.int .i64 (q : Nat))) := by rw [Hid, hq]; exact HDM.out.2 _
          have HSKIP : Hid (¬ counts l l[m] m → (∃ m_1 : Nat, Value.int .i64 ((m : Int) + 1) = .int .i64 m_1 ∧ m_1 ≤ l.length ∧ Hid (POwn (wr.alloc (.cells #[.string l[m].1, .string l[m].2] 72)) (w.heap.size + 1) (.slice av (tabTo l m).length cv) (tabTo l m_1) ∧ Below (w.heap.size + 1) W2 (wr.alloc (.cells #[.string l[m].1, .string l[m].2] 72)))) ∧ l.length - (intOf (.int .i64 ((m : Int) + 1))).toNat < l.length - (intOf (.int .i64 (m : Int))).toNat) := fun hno =>
            ⟨⟨m + 1, by go_num, by omega, by rw [HTS.out, if_neg hno, List.append_nil]; exact pown_frame HV.out.1 (fun g hg => Below.heap_alloc _ _ _ (pown_lt HV.out.1 g hg).2), HV.out.2.alloc (Nat.le_trans HBS.out HV.out.2.size) _⟩, by simp [intOf]; omega⟩
          by_cases hqm : q = m
          · by_cases hve : l[m].2.data.toList = []
            · have hve' : (l[m].2.toList == []) = true := by rw [ByteArray.toList_eq, hve]; rfl
              have HNO : Hid (¬ counts l l[m] m) := fun h => (HCT.out.1 h).2 hve
              have hqm' : (q : Int) = (m : Int) := by rw [hqm]
              clear hve hq hqm
              go_wp2_with (at_lookup; go_loud (refine wpList_lookup_own_int _ rfl _ _ 146 rfl 9 3 .i64 lawText Try.underlying146 Try.underlying3 (zeroInt _) w.heap.size l.length D rfl HDA.out.1 _ _ rfl hkey ?_); intro c hat hwc; obtain rfl : c = (q : Int) := (by rw [HLM.out] at hat; cases hat; rfl); clear hat hwc)
              exact HSKIP.out HNO.out
            · have hve' : (l[m].2.toList == []) = false := by rw [ByteArray.toList_eq, beq_eq_false_iff_ne]; exact hve
              have HYES : Hid (counts l l[m] m) := HCT.out.2 ⟨by rw [← hq]; exact hqm, hve⟩
              have hqm' : (q : Int) = (m : Int) := by rw [hqm]
              have hks : l[m].1.size ≤ 100000000 := by have := HZ.out _ (List.getElem_mem hlt); omega
              have HTS2 : Hid (tabTo l (m + 1) = tabTo l m ++ [digB l[m]]) := by rw [Hid, HTS.out, if_pos HYES.out]
              have HPW : Hid (POwn (wr.alloc (.cells #[.string l[m].1, .string l[m].2] 72)) (w.heap.size + 1) (.slice av (tabTo l m).length cv) (tabTo l m)) := pown_frame HV.out.1 (fun g hg => Below.heap_alloc _ _ _ (pown_lt HV.out.1 g hg).2)
              have HBA : Hid (Below (w.heap.size + 1) W2 (wr.alloc (.cells #[.string l[m].1, .string l[m].2] 72))) := HV.out.2.alloc (Nat.le_trans HBS.out HV.out.2.size) _
              have HSZ2 : Hid (w.heap.size + 1 ≤ wr.heap.size + 1) := by have := HV.out.2.size; have := HBS.out; rw [Hid]; omega
              have HOB : Hid ((Value.slice av (tabTo l m).length cv).ownBlock ≠ some wr.heap.size) := fun e => Nat.lt_irrefl _ (pown_lt HV.out.1 _ e).2
              clear hve hq hqm HSKIP HTS HCT
              generalize tabTo l m = tm at *
              go_wp2_with (at_lookup; go_loud (refine wpList_lookup_own_int _ rfl _ _ 146 rfl 9 3 .i64 lawText Try.underlying146 Try.underlying3 (zeroInt _) w.heap.size l.length D rfl HDA.out.1 _ _ rfl hkey ?_); intro c hat hwc; obtain rfl : c = (q : Int) := (by rw [HLM.out] at hat; cases hat; rfl); clear hat hwc)
              have x0 : (wr.alloc (.cells #[.string l[m].1, .string l[m].2] 72)).cell? ⟨wr.heap.size, 0, none⟩ = some (.string l[m].1) := cell_of_row _ _ 0 _ _ _ (heap_alloc_new wr _)
              have x1 : (wr.alloc (.cells #[.string l[m].1, .string l[m].2] 72)).cell? ⟨wr.heap.size, 1, none⟩ = some (.string l[m].2) := cell_of_row _ _ 1 _ _ _ (heap_alloc_new wr _)
              have hlt3 : wr.heap.size < (wr.alloc (.cells #[.string l[m].1, .string l[m].2] 72)).heap.size := by rw [alloc_size]; omega
              generalize wr.alloc (.cells #[.string l[m].1, .string l[m].2] 72) = W3 at *
              go_region_held3 (fun w' => w'.cell? ⟨wr.heap.size, 0, none⟩ = some (.string l[m].1) ∧ w'.cell? ⟨wr.heap.size, 1, none⟩ = some (.string l[m].2)) (go_keep)
                ((first
                  | (go_at_call 79; refine (HD.out _ _ hks).mono ?_; rintro e w3 ⟨rfl, b3⟩; have HB3 : Hid (Below (w.heap.size + 1) W2 w3) := HBA.out.trans (Below.mono ⟨b3.os, b3.tape, b3.output, b3.size, b3.block⟩ (Nat.le_trans HBS.out HBA.out.size)); have HO3 : Hid (POwn w3 (w.heap.size + 1) (.slice av tm.length cv) tm) := pown_frame HPW.out (fun g hg => b3.block g (pown_lt HPW.out g hg).2); have z0 := (b3.cell (p := ⟨wr.heap.size, 0, none⟩) hlt3).trans x0; have z1 := (b3.cell (p := ⟨wr.heap.size, 1, none⟩) hlt3).trans x1; have hne3 : wr.heap.size ≠ w3.heap.size := Nat.ne_of_lt (Nat.lt_of_lt_of_le hlt3 b3.size); have hlt4 : wr.heap.size < w3.heap.size := Nat.lt_of_lt_of_le hlt3 b3.size; clear b3)
                  | (go_loud (refine step_push_pair rfl (.tmp 40) (.tmp 47) rfl (digB l[m]) _ rfl rfl rfl HO3.out HB3.out HBS.out HLE.out ?_); intro v' w' ho' hb' hk'; have HO' := hid ho'; have HB' := hid hb'; have y0 := (cellB (off := 0) (hk' wr.heap.size (Nat.lt_of_le_of_ne (Nat.le_of_lt hlt4) hne3) HOB.out)).trans z0; have y1 := (cellB (off := 1) (hk' wr.heap.size (Nat.lt_of_le_of_ne (Nat.le_of_lt hlt4) hne3) HOB.out)).trans z1; clear ho' hb' hk')))
              all_goals go_wp2_with fail
              all_goals exact ⟨⟨m + 1, by go_num, by omega, by rw [HTS2.out]; exact HO'.out, HB'.out⟩, by simp [intOf]; omega⟩
          · have HNO : Hid (¬ counts l l[m] m) := fun h => hqm (by rw [hq]; exact (HCT.out.1 h).1)
            have hqm' : ¬ (q : Int) = (m : Int) := by omega
            clear hq hqm
            go_wp2_with (at_lookup; go_loud (refine wpList_lookup_own_int _ rfl _ _ 146 rfl 9 3 .i64 lawText Try.underlying146 Try.underlying3 (zeroInt _) w.heap.size l.length D rfl HDA.out.1 _ _ rfl hkey ?_); intro c hat hwc; obtain rfl : c = (q : Int) := (by rw [HLM.out] at hat; cases hat; rfl); clear hat hwc)
            exact HSKIP.out HNO.out
        · have i3 : ¬ (m : Int) < (l.length : Int) := by omega
          obtain rfl : m = l.length := by omega
          go_wp2_with fail
          go_ret
          exact ⟨_, rfl, owns_base HV.out.1 (Nat.le_succ _), HDB.out.trans (HV.out.2.mono (Nat.le_succ _))⟩
end Go.Proofs.Ytbmohenjphmlgaa

/- A tree of nodes as the program builds it, and what is left of it when memory turns. -/
namespace Go.Proofs.Ytbmohenjphmlgaa
open Go.RowKit
set_option maxRecDepth 100000

theorem branchCells_at (a : Option Addr) (cap : Nat) (cs : Array Value) (x : ByteArray) : (branchCells a cap cs x)[0]? = some (.int .i64 3) ∧ (branchCells a cap cs x)[1]? = some (.bool true) ∧ (branchCells a cap cs x)[2]? = some (.string ⟨#[]⟩) ∧ (branchCells a cap cs x)[3]? = some (.slice a 17 cap) := by
  unfold branchCells
  refine ⟨?_, ?_, ?_, ?_⟩ <;> rw [Array.append_assoc, Array.getElem?_append_left (by simp)] <;> rfl

theorem branchCells_head (a : Option Addr) (cap : Nat) (cs : Array Value) (x : ByteArray) : (branchCells a cap cs x).extract 0 4 = #[.int .i64 3, .bool true, .string ⟨#[]⟩, .slice a 17 cap] := by
  unfold branchCells
  rw [Array.append_assoc, Array.extract_append]
  simp

theorem nd_branch (a : Option Addr) (cap : Nat) (cs : Array Value) (x : ByteArray) : Nd (.iface 143 (.agg (branchCells a cap cs x))) 3 true ⟨#[]⟩ a 17 cap :=
  ⟨_, _, .inr (.inr (.inr rfl)), rfl, branchCells_head a cap cs x⟩

def emptyV : Value := .iface 158 (.agg #[.int .i64 0, .bool false, .string ⟨#[]⟩, .slice none 0 0])
def leafV (a : Option Addr) (cap : Nat) (d x : ByteArray) : Value := .iface 162 (.agg #[.int .i64 1, .bool true, .string ⟨#[]⟩, .slice a 2 cap, .string d, .string x])
def branchV (a : Option Addr) (cap : Nat) (cs : Array Value) (x : ByteArray) : Value := .iface 143 (.agg (branchCells a cap cs x))
def extV (a : Option Addr) (cap : Nat) (d s : ByteArray) (v : Value) : Value := .iface 165 (.agg #[.int .i64 2, .bool true, .string ⟨#[]⟩, .slice a 2 cap, .string d, .string s, v])

/-- v is the node of entries, as it was built, with at most f steps down; what is in it lies in blocks from lo on. -/
def BT (lo : Nat) (w : World) : Nat → Value → List Tr.Ent → Prop
  | 0 => fun v l => l = [] ∧ v = emptyV
  | f + 1 => fun v l =>
    (l = [] ∧ v = emptyV) ∨
    (∃ e a cap d x, l = [e] ∧ v = leafV a cap d x ∧ d.data.toList = e.dig ∧ x.data.toList = e.val ∧ RepW lo w.heap.size w (f + 3) (.agg #[.bool true, .string ⟨#[]⟩, .slice a 2 cap]) (Tr.node (f + 1) l)) ∨
    (∃ p q r, l = p :: q :: r ∧ Tr.shared l ≠ [] ∧ ∃ a cap d a2 c2 cs x, v = extV a cap d (refSum (Tr.node f (Tr.behind (Tr.shared l) l))) (branchV a2 c2 cs x) ∧ d.data.toList = Tr.shared l ∧ RepW lo w.heap.size w (f + 3) (.agg #[.bool true, .string ⟨#[]⟩, .slice a 2 cap]) (Tr.node (f + 1) l) ∧ BT lo w f (branchV a2 c2 cs x) (Tr.behind (Tr.shared l) l)) ∨
    (Tr.Forks l ∧ ∃ a cap cs x, v = branchV a cap cs x ∧ cs.size = 32 ∧ x.data.toList = Tr.valOf l ∧ RepW lo w.heap.size w (f + 3) (.agg #[.bool true, .string ⟨#[]⟩, .slice a 17 cap]) (Tr.node (f + 1) l) ∧
      ∀ d, d < 16 → ∃ vd, cs[2 * d]? = some (.string (refSum (Tr.node f (Tr.behind [UInt8.ofNat d] l)))) ∧ cs[2 * d + 1]? = some vd ∧ BT lo w f vd (Tr.behind [UInt8.ofNat d] l))

theorem bt_turn {lo lo' : Nat} {w w' : World} (hlo : lo' ≤ lo) (hs : w.heap.size ≤ w'.heap.size) (hb : ∀ k, lo ≤ k → k < w.heap.size → w'.heap[k]? = w.heap[k]?) : ∀ (f : Nat) (v : Value) (l : List Tr.Ent), BT lo w f v l → BT lo' w' f v l := by
  intro f
  induction f with
  | zero => intro v l h; exact h
  | succ f ih =>
    intro v l h
    rcases h with h | ⟨e, a, cap, d, x, h1, h2, h3, h4, h5⟩ | ⟨p, q, r, h1, h2, a, cap, d, a2, c2, cs, x, h3, h4, h5, h6⟩ | ⟨h1, a, cap, cs, x, h2, h3, h4, h5, h6⟩
    · exact .inl h
    · exact .inr (.inl ⟨e, a, cap, d, x, h1, h2, h3, h4, repW_turn hlo hs hb _ _ _ h5⟩)
    · exact .inr (.inr (.inl ⟨p, q, r, h1, h2, a, cap, d, a2, c2, cs, x, h3, h4, repW_turn hlo hs hb _ _ _ h5, ih _ _ h6⟩))
    · exact .inr (.inr (.inr ⟨h1, a, cap, cs, x, h2, h3, h4, repW_turn hlo hs hb _ _ _ h5, fun d hd => by
        obtain ⟨vd, g1, g2, g3⟩ := h6 d hd
        exact ⟨vd, g1, g2, ih _ _ g3⟩⟩))

theorem bt_later {lo : Nat} {w w' : World} {f : Nat} {v : Value} {l : List Tr.Ent} (h : BT lo w f v l) (hb : Below w.heap.size w w') : BT lo w' f v l := bt_turn (Nat.le_refl _) hb.size (fun k _ hk => hb.block k hk) f v l h
theorem bt_low {lo lo' : Nat} {w : World} {f : Nat} {v : Value} {l : List Tr.Ent} (h : BT lo w f v l) (hlo : lo' ≤ lo) : BT lo' w f v l := bt_turn hlo (Nat.le_refl _) (fun _ _ _ => rfl) f v l h

theorem nd_empty : Nd emptyV 0 false ⟨#[]⟩ none 0 0 := ⟨_, _, .inl rfl, rfl, rfl⟩
theorem nd_leaf (a : Option Addr) (cap : Nat) (d x : ByteArray) : Nd (leafV a cap d x) 1 true ⟨#[]⟩ a 2 cap := ⟨_, _, .inr (.inl rfl), rfl, rfl⟩
theorem nd_ext (a : Option Addr) (cap : Nat) (d s : ByteArray) (v : Value) : Nd (extV a cap d s v) 2 true ⟨#[]⟩ a 2 cap := ⟨_, _, .inr (.inr (.inl rfl)), rfl, rfl⟩

theorem node_nil_is (f : Nat) : Tr.node f [] = Tr.itB [] := by cases f <;> rfl

theorem repW_empty (lo B : Nat) (w : World) (m : Nat) : RepW lo B w (m + 1) (.agg #[.bool false, .string ⟨#[]⟩, .slice none 0 0]) (Tr.itB []) := ⟨none, 0, rfl, by simp [Tr.itB], fun i hi => by simp [Tr.itB] at hi⟩

/-- Of whatever kind: what it begins with, and its item. -/
theorem bt_nd {lo : Nat} {w : World} {f : Nat} {v : Value} {l : List Tr.Ent} (h : BT lo w f v l) : ∃ k l0 s a n cap, Nd v k l0 s a n cap ∧ RepW lo w.heap.size w (f + 2) (.agg #[.bool l0, .string s, .slice a n cap]) (Tr.node f l) := by
  cases f with
  | zero =>
    obtain ⟨rfl, rfl⟩ := h
    exact ⟨_, _, _, _, _, _, nd_empty, repW_empty _ _ _ _⟩
  | succ f =>
    rcases h with ⟨rfl, rfl⟩ | ⟨e, a, cap, d, x, h1, rfl, h3, h4, h5⟩ | ⟨p, q, r, h1, h2, a, cap, d, a2, c2, cs, x, rfl, h4, h5, h6⟩ | ⟨h1, a, cap, cs, x, rfl, h3, h4, h5, h6⟩
    · exact ⟨_, _, _, _, _, _, nd_empty, repW_empty _ _ _ _⟩
    · exact ⟨_, _, _, _, _, _, nd_leaf _ _ _ _, h5⟩
    · exact ⟨_, _, _, _, _, _, nd_ext _ _ _ _ _, h5⟩
    · exact ⟨_, _, _, _, _, _, nd_branch _ _ _ _, h5⟩

end Go.Proofs.Ytbmohenjphmlgaa
