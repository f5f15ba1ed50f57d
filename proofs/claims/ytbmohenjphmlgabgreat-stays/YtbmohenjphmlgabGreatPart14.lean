/- Part 14 of a proof: what the last text needs. -/
import Derived.Test.YtbmohenjphmlgabGreatPart13
import Derived.Test.YtbmohenjphmlgabGreatPart3
import Derived.Test.YtbmohenjphmlgabGreatPart5
/- Plain mathematics of proofs that are read at once: a sound item is not deep; the way of a proof that was read. Nothing of the program is in here. -/
namespace Go.Proofs.YtbmohenjphmlgabGreat
set_option maxRecDepth 100000

namespace Tr

theorem flat_deep {t : Itm} (h : t.list = false) : Itm.deep t = 0 := by rw [Itm.deep_eq, if_neg (by rw [h]; decide)]

theorem empty_flat {t : Itm} (h : isEmpty t = true) : t.list = false := by unfold isEmpty at h; simp at h; exact h.1
theorem value_flat {t : Itm} (h : isValue t = true) : t.list = false := by unfold isValue at h; simp at h; exact h.1.1
theorem sum_flat {t : Itm} (h : isSum t = true) : t.list = false := by unfold isSum at h; simp at h; exact h.1
theorem unpath_flat {t : Itm} {u : List UInt8 × Bool} (h : unpath t = some u) : t.list = false := by
  cases hl : t.list with
  | false => rfl
  | true => unfold unpath at h; rw [hl] at h; simp at h

theorem kid_mem {t x : Itm} (h : x ∈ t.items) : ∃ i, i < t.items.length ∧ x = kid t i := by
  obtain ⟨i, hi, rfl⟩ := List.getElem_of_mem h
  exact ⟨i, hi, by unfold kid; rw [List.getD_eq_getElem?_getD, List.getElem?_eq_getElem hi]; rfl⟩

/-- A sound item is not deep. -/
theorem sound_deep {t : Itm} (hs : sound t = true) : Itm.deep t ≤ 8 := by
  cases hl : t.list with
  | false => rw [flat_deep hl]; omega
  | true =>
    have he : isEmpty t = false := by unfold isEmpty; rw [hl]; rfl
    rw [Itm.deep_eq, if_pos hl]
    have : Itm.top (t.items.map Itm.deep) ≤ 7 := by
      refine Itm.top_le fun x hx => ?_
      simp only [List.mem_map] at hx
      obtain ⟨y, hy, rfl⟩ := hx
      obtain ⟨i, hi, rfl⟩ := kid_mem hy
      cases hb : isBranch t with
      | true =>
        rw [sound_branch he hb] at hs
        simp only [Bool.and_eq_true, List.all_eq_true] at hs
        have hsl := hs.1 i (List.mem_range.2 (by have := branch_len hb; omega))
        rw [slotOk_eq] at hsl
        simp only [Bool.or_eq_true] at hsl
        rcases hsl with h | h
        · rw [flat_deep (empty_flat h)]; omega
        · split at h
          · rw [flat_deep (value_flat h)]; omega
          · simp only [Bool.or_eq_true, Bool.and_eq_true, decide_eq_true_eq] at h
            rcases h with h | h
            · rw [flat_deep (sum_flat h)]; omega
            · have := deep_le (kid t i)
              omega
      | false =>
        obtain ⟨h2, hp⟩ := sound_two hs he hb
        unfold pairOk at hp
        split at hp
        · cases hp
        · rename_i p leaf hu
          have hi2 : i = 0 ∨ i = 1 := by omega
          rcases hi2 with rfl | rfl
          · rw [flat_deep (unpath_flat hu)]; omega
          · split at hp
            · rw [flat_deep (value_flat hp)]; omega
            · simp only [Bool.and_eq_true] at hp
              rw [flat_deep (sum_flat hp.2)]; omega
    omega

/-- What is read of a text: the sound item whose bytes they are. -/
def reads (l : List UInt8) : Option Itm := match whole l with | some t => if sound t then some t else none | none => none

theorem reads_some {l : List UInt8} {t : Itm} (h : reads l = some t) : whole l = some t ∧ sound t = true := by
  unfold reads at h
  split at h
  · rename_i u hu
    split at h
    · rename_i hs
      cases h
      exact ⟨hu, hs⟩
    · cases h
  · cases h

theorem whole_enc_eq {l : List UInt8} {t : Itm} (h : whole l = some t) : l = Itm.enc t ∧ Itm.pure t = true := by
  unfold whole at h
  split at h
  · rename_i u hu
    cases h
    have := Itm.parse_sound _ _ _ _ hu
    rw [List.append_nil] at this
    exact this
  · cases h

theorem vstep_reads {i : Nat} {w : Way} {s : List UInt8} : vstep i w s = if w.need = [] || sum s != w.need || (decide (0 < i) && decide (s.length < 8)) then none else match reads s with | none => none | some t => goes t w.digits w.branch := by
  unfold vstep reads
  split
  · rfl
  · cases whole s with
    | none => rfl
    | some t =>
      show (if sound t = true then _ else none) = match (if sound t = true then some t else none) with | none => none | some t => goes t w.digits w.branch
      split <;> rfl

theorem vloop_unread : ∀ (p : List (List UInt8)) (i : Nat) (w : Way), (∃ s ∈ p, reads s = none) → vloop i w p = none := by
  intro p
  induction p with
  | nil => intro i w ⟨s, h, _⟩; cases h
  | cons s p ih =>
    intro i w ⟨x, hx, hr⟩
    rw [vloop_cons]
    cases hv : vstep i w s with
    | none => rfl
    | some w' =>
      rcases List.mem_cons.1 hx with rfl | hm
      · rw [vstep_reads, hr] at hv
        split at hv <;> cases hv
      · exact ih _ _ ⟨x, hm, hr⟩

/-- The rest of a proof, behind its first j elements, on a way that may have ended. -/
def fin (p : List (List UInt8)) (j : Nat) (o : Option Way) : Option Way := match o with | none => none | some w => vloop j w (p.drop j)

theorem fin_none (p : List (List UInt8)) (j : Nat) : fin p j none = none := rfl
theorem fin_some (p : List (List UInt8)) (j : Nat) (w : Way) : fin p j (some w) = vloop j w (p.drop j) := rfl
theorem fin_zero (p : List (List UInt8)) (w : Way) : fin p 0 (some w) = vloop 0 w p := rfl

/-- The next element of the proof. -/
theorem fin_next {p : List (List UInt8)} {j : Nat} (w : Way) (hj : j < p.length) : fin p j (some w) = fin p (j + 1) (vstep j w p[j]) := by
  rw [fin_some, List.drop_eq_getElem_cons hj, vloop_cons]
  cases vstep j w p[j] <;> rfl

/-- There is no next element. -/
theorem fin_out {p : List (List UInt8)} {j : Nat} {w : Way} (hj : p.length ≤ j) : fin p j (some w) = some w := by
  rw [fin_some, List.drop_eq_nil_of_le hj]; rfl

/-- A way that has ended: the proof is at its end, or is refused. -/
theorem fin_end {p : List (List UInt8)} {j : Nat} {w : Way} (hw : w.need = []) : verEnd (fin p j (some w)) = if p.length ≤ j then (w.value, w.found, 0) else ([], false, 6) := by
  split
  · rename_i h
    rw [fin_out h]
    exact if_pos hw
  · rename_i h
    rw [fin_next w (by omega), vstep_a hw]
    rfl

theorem verEnd_need {w : Way} (h : w.need ≠ []) : verEnd (some w) = ([], false, 6) := if_neg h

theorem goes_true {t : Itm} (k : List UInt8) (h : isBranch t = true) : goes t k true = goes t k false := by
  rw [goes_eq, goes_eq]; unfold goesOf; rw [h]; rfl

end Tr
end Go.Proofs.YtbmohenjphmlgabGreat

/- The walks of IsRoot and isLongKey (of the program). -/
namespace Go.Proofs.YtbmohenjphmlgabGreat
open Go.RowKit
set_option maxRecDepth 100000

theorem isRoot_any (s : ByteArray) (w : World) : Calls Tryz.prog 43 #[.string s] w fun e w' => e = .returned (.bool (decide ((s.size : Int) = 8))) ∧ w' = w := by
  go_enter Tryz.func43, Tryz.ntmps43
  go_wp2_with fail
  go_ret
  exact ⟨rfl, rfl⟩

theorem isLongKey_any (s : ByteArray) (w : World) : Calls Tryz.prog 61 #[.string s] w fun e w' => e = .returned (.bool (decide ((6 : Int) < s.size))) ∧ w' = w := by
  go_enter Tryz.func61, Tryz.ntmps61
  go_wp2_with fail
  go_ret
  exact ⟨by simp, rfl⟩

end Go.Proofs.YtbmohenjphmlgabGreat

/- The walks of proofFault and tableFault (of the program). -/
namespace Go.Proofs.YtbmohenjphmlgabGreat
open Go.RowKit
set_option maxRecDepth 100000

/-- Texts in a row, in blocks below B. -/
def SRd (B : Nat) (w : World) (a : Option Addr) (l : List ByteArray) : Prop :=
  ∀ i, (h : i < l.length) → ∃ b off, a = some ⟨b, off, none⟩ ∧ b < B ∧ w.cell? ⟨b, off + i, none⟩ = some (.string l[i])

theorem SRd.later {B : Nat} {w w' : World} {a : Option Addr} {l : List ByteArray} (h : SRd B w a l) (hb : Below B w w') : SRd B w' a l := by
  intro i hi
  obtain ⟨b, off, rfl, hlt, c0⟩ := h i hi
  exact ⟨b, off, rfl, hlt, (hb.cell (p := ⟨b, off + i, none⟩) hlt).trans c0⟩

theorem SRd.wider {B B' : Nat} {w : World} {a : Option Addr} {l : List ByteArray} (h : SRd B w a l) (hB : B ≤ B') : SRd B' w a l := by
  intro i hi
  obtain ⟨b, off, e, hlt, c0⟩ := h i hi
  exact ⟨b, off, e, Nat.lt_of_lt_of_le hlt hB, c0⟩

theorem srd_nil (B : Nat) (w : World) (a : Option Addr) : SRd B w a [] := fun i hi => by simp at hi

/-- What is wrong with a proof before it is looked into. -/
def pfault (root key : ByteArray) (l : List ByteArray) : Nat :=
  if root.size ≠ 8 then 5 else if 6 < key.size then 3 else if 20 < l.length then 2 else if ∃ s ∈ l, 1000 < s.size then 2 else 0

theorem pfault_root {root key : ByteArray} {l : List ByteArray} (h : root.size ≠ 8) : pfault root key l = 5 := by unfold pfault; rw [if_pos h]
theorem pfault_key {root key : ByteArray} {l : List ByteArray} (h : root.size = 8) (h2 : 6 < key.size) : pfault root key l = 3 := by unfold pfault; rw [if_neg (by omega), if_pos h2]
theorem pfault_many {root key : ByteArray} {l : List ByteArray} (h : root.size = 8) (h2 : ¬ 6 < key.size) (h3 : 20 < l.length) : pfault root key l = 2 := by unfold pfault; rw [if_neg (by omega), if_neg h2, if_pos h3]
theorem pfault_big {root key : ByteArray} {l : List ByteArray} (h : root.size = 8) (h2 : ¬ 6 < key.size) (h3 : ¬ 20 < l.length) (h4 : ∃ s ∈ l, 1000 < s.size) : pfault root key l = 2 := by unfold pfault; rw [if_neg (by omega), if_neg h2, if_neg h3, if_pos h4]
theorem pfault_ok {root key : ByteArray} {l : List ByteArray} (h : root.size = 8) (h2 : ¬ 6 < key.size) (h3 : ¬ 20 < l.length) (h4 : ∀ s ∈ l, ¬ 1000 < s.size) : pfault root key l = 0 := by unfold pfault; rw [if_neg (by omega), if_neg h2, if_neg h3, if_neg (fun ⟨s, hs, h⟩ => h4 s hs h)]

set_option maxHeartbeats 1600000 in
theorem proofFault_any (root key : ByteArray) (a : Option Addr) (cap : Nat) (l : List ByteArray) (w : World) (hr : SRd w.heap.size w a l) : Calls Tryz.prog 85 #[.string root, .string key, .slice a l.length cap] w fun e w' => e = .returned (.int .i64 (pfault root key l)) ∧ w' = w := by
  have HI := hid (fun s w => isRoot_any s w)
  have HK := hid (fun s w => isLongKey_any s w)
  have HR := hid hr
  clear hr
  by_cases h1 : root.size = 8
  · have D1 : Hid (decide ((root.size : Int) = 8) = true) := decide_eq_true (by omega)
    by_cases h2 : 6 < key.size
    · have D2 : Hid (decide ((6 : Int) < key.size) = true) := decide_eq_true (by omega)
      rw [pfault_key h1 h2]
      clear h1 h2
      go_enter Tryz.func85, Tryz.ntmps85
      go_wp2_with fail
      refine (HI.out _ _).mono ?_
      rintro e w1 ⟨rfl, hw⟩
      obtain rfl := hw.symm
      rw [D1.out]
      go_wp2_with fail
      refine (HK.out _ _).mono ?_
      rintro e w1 ⟨rfl, hw⟩
      obtain rfl := hw.symm
      rw [D2.out]
      go_wp2_with fail
      go_ret
      exact ⟨rfl, rfl⟩
    · have D2 : Hid (decide ((6 : Int) < key.size) = false) := decide_eq_false (by omega)
      by_cases h3 : 20 < l.length
      · rw [pfault_many h1 h2 h3]
        have h3' : (20 : Int) < (l.length : Int) := by omega
        clear h1 h2 h3
        go_enter Tryz.func85, Tryz.ntmps85
        go_wp2_with fail
        refine (HI.out _ _).mono ?_
        rintro e w1 ⟨rfl, hw⟩
        obtain rfl := hw.symm
        rw [D1.out]
        go_wp2_with fail
        refine (HK.out _ _).mono ?_
        rintro e w1 ⟨rfl, hw⟩
        obtain rfl := hw.symm
        rw [D2.out]
        go_wp2_with fail
        go_ret
        exact ⟨rfl, rfl⟩
      · have h3' : ¬ (20 : Int) < (l.length : Int) := by omega
        have HF : Hid (∀ n, (∃ s ∈ l, 1000 < s.size) → n = 2 → n = pfault root key l) := fun n h hn => by rw [hn, pfault_big h1 h2 h3 h]
        have HG : Hid (∀ n, (∀ s ∈ l, ¬ 1000 < s.size) → n = 0 → n = pfault root key l) := fun n h hn => by rw [hn, pfault_ok h1 h2 h3 h]
        generalize pfault root key l = N at *
        clear h1 h2
        go_enter Tryz.func85, Tryz.ntmps85
        go_wp2_with fail
        refine (HI.out _ _).mono ?_
        rintro e w1 ⟨rfl, hw⟩
        obtain rfl := hw.symm
        rw [D1.out]
        go_wp2_with fail
        refine (HK.out _ _).mono ?_
        rintro e w1 ⟨rfl, hw⟩
        obtain rfl := hw.symm
        rw [D2.out]
        go_wp2_with fail
        go_loopw [8, 22] (fun _ i wr => ∃ k : Nat, i = .int .i64 k ∧ k ≤ l.length ∧ Hid (∀ j, (h : j < l.length) → j < k → ¬ 1000 < l[j].size) ∧ wr = w) (fun _ i _ => l.length - (intOf i).toNat)
        case atStart => exact ⟨0, rfl, Nat.zero_le _, fun j _ h => by omega, rfl⟩
        case round =>
          obtain ⟨k, rfl, hk, HH, rfl⟩ := hrel
          by_cases hlt : k < l.length
          · obtain ⟨b, off, rfl, hb, e0⟩ := HR.out k hlt
            have i1 : (0 : Int) ≤ (k : Int) := by omega
            have i2 : (k : Int) < (l.length : Int) := by omega
            by_cases hz : 1000 < l[k].size
            · have HE : Hid (∃ s ∈ l, 1000 < s.size) := ⟨_, List.getElem_mem hlt, hz⟩
              have hz' : (1000 : Int) < (l[k].size : Int) := by omega
              go_wp2_with fail
              go_ret
              exact ⟨by rw [← HF.out 2 HE.out rfl]; rfl, rfl⟩
            · have hz' : ¬ (1000 : Int) < (l[k].size : Int) := by omega
              have HE : Hid (∀ j, (h : j < l.length) → j < k + 1 → ¬ 1000 < l[j].size) := fun j hj hjk => by
                by_cases e : j = k
                · subst e; exact hz
                · exact HH.out j hj (by omega)
              clear hz
              go_wp2_with fail
              exact ⟨⟨k + 1, by go_num, by omega, HE.out, trivial⟩, by simp [intOf]; omega⟩
          · have i2 : ¬ (k : Int) < (l.length : Int) := by omega
            have HE : Hid (∀ s ∈ l, ¬ 1000 < s.size) := fun s hs => by
              obtain ⟨j, hj, rfl⟩ := List.getElem_of_mem hs
              exact HH.out j hj (by omega)
            go_wp2_with fail
            go_ret
            exact ⟨by rw [← HG.out 0 HE.out rfl]; rfl, rfl⟩
  · have D1 : Hid (decide ((root.size : Int) = 8) = false) := decide_eq_false (by omega)
    rw [pfault_root h1]
    clear h1
    go_enter Tryz.func85, Tryz.ntmps85
    go_wp2_with fail
    refine (HI.out _ _).mono ?_
    rintro e w1 ⟨rfl, hw⟩
    obtain rfl := hw.symm
    rw [D1.out]
    go_wp2_with fail
    go_ret
    exact ⟨rfl, rfl⟩

/-- What is wrong with pairs. -/
def tfault (l : List (ByteArray × ByteArray)) (key : ByteArray) : Nat :=
  if 60 < l.length then 2 else if (∃ p ∈ l, 6 < p.1.size) ∨ 6 < key.size then 3 else if ∃ p ∈ l, 40 < p.2.size then 4 else 0

theorem tfault_many {l : List (ByteArray × ByteArray)} {key : ByteArray} (h : 60 < l.length) : tfault l key = 2 := by unfold tfault; rw [if_pos h]
theorem tfault_key {l : List (ByteArray × ByteArray)} {key : ByteArray} (h : ¬ 60 < l.length) (h2 : (∃ p ∈ l, 6 < p.1.size) ∨ 6 < key.size) : tfault l key = 3 := by unfold tfault; rw [if_neg h, if_pos h2]
theorem tfault_value {l : List (ByteArray × ByteArray)} {key : ByteArray} (h : ¬ 60 < l.length) (h2 : ∀ p ∈ l, ¬ 6 < p.1.size) (h3 : ¬ 6 < key.size) (h4 : ∃ p ∈ l, 40 < p.2.size) : tfault l key = 4 := by unfold tfault; rw [if_neg h, if_neg (fun x => x.elim (fun ⟨p, hp, hx⟩ => h2 p hp hx) h3), if_pos h4]
theorem tfault_ok {l : List (ByteArray × ByteArray)} {key : ByteArray} (h : ¬ 60 < l.length) (h2 : ∀ p ∈ l, ¬ 6 < p.1.size) (h3 : ¬ 6 < key.size) (h4 : ∀ p ∈ l, ¬ 40 < p.2.size) : tfault l key = 0 := by unfold tfault; rw [if_neg h, if_neg (fun x => x.elim (fun ⟨p, hp, hx⟩ => h2 p hp hx) h3), if_neg (fun ⟨p, hp, hx⟩ => h4 p hp hx)]

theorem tableFault_many (key : ByteArray) (a : Option Addr) (n cap : Nat) (w : World) (h : 60 < n) : Calls Tryz.prog 39 #[.slice a n cap, .string key] w fun e w' => e = .returned (.int .i64 2) ∧ w' = w := by
  have h' : (60 : Int) < (n : Int) := by omega
  clear h
  go_enter Tryz.func39, Tryz.ntmps39
  go_wp2_with fail
  go_ret
  exact ⟨rfl, rfl⟩

set_option maxHeartbeats 3200000 in
theorem tableFault_any (key : ByteArray) (a : Option Addr) (cap : Nat) (l : List (ByteArray × ByteArray)) (w : World) (hr : PRd w.heap.size w a l) : Calls Tryz.prog 39 #[.slice a l.length cap, .string key] w fun e w' => e = .returned (.int .i64 (tfault l key)) ∧ Below w.heap.size w w' := by
  by_cases h0 : 60 < l.length
  · rw [tfault_many h0]
    refine (tableFault_many key a _ cap w h0).mono ?_
    rintro e w' ⟨rfl, rfl⟩
    exact ⟨rfl, Below.refl _ _⟩
  · have HK := hid (fun s w => isLongKey_any s w)
    have HR := hid hr
    have h0' : ¬ (60 : Int) < (l.length : Int) := by omega
    have HF3 : Hid (∀ n, ((∃ p ∈ l, 6 < p.1.size) ∨ 6 < key.size) → n = 3 → n = tfault l key) := fun n h hn => by rw [hn, tfault_key h0 h]
    have HF4 : Hid (∀ n, (∀ p ∈ l, ¬ 6 < p.1.size) → ¬ 6 < key.size → (∃ p ∈ l, 40 < p.2.size) → n = 4 → n = tfault l key) := fun n h1 h2 h3 hn => by rw [hn, tfault_value h0 h1 h2 h3]
    have HF0 : Hid (∀ n, (∀ p ∈ l, ¬ 6 < p.1.size) → ¬ 6 < key.size → (∀ p ∈ l, ¬ 40 < p.2.size) → n = 0 → n = tfault l key) := fun n h1 h2 h3 hn => by rw [hn, tfault_ok h0 h1 h2 h3]
    generalize tfault l key = N at *
    clear hr h0
    go_enter Tryz.func39, Tryz.ntmps39
    go_wp2_with fail
    go_loopw [6, 14] (fun _ i wr => ∃ k : Nat, i = .int .i64 k ∧ k ≤ l.length ∧ Hid ((∀ j, (h : j < l.length) → j < k → ¬ 6 < l[j].1.size) ∧ Below w.heap.size w wr)) (fun _ i _ => l.length - (intOf i).toNat)
    case atStart => exact ⟨0, rfl, Nat.zero_le _, fun j _ h => by omega, Below.refl _ _⟩
    case round =>
      obtain ⟨k, rfl, hk, HH⟩ := hrel
      by_cases hlt : k < l.length
      · obtain ⟨b, off, rfl, hb, e0, e1⟩ := HR.out k hlt
        have f0 := (HH.out.2.cell (p := ⟨b, off + k * 2, none⟩) hb).trans e0
        have f1 := (HH.out.2.cell (p := ⟨b, off + k * 2 + 1, none⟩) hb).trans e1
        have i1 : (0 : Int) ≤ (k : Int) := by omega
        have i2 : (k : Int) < (l.length : Int) := by omega
        clear e0 e1
        go_wp2_with fail
        refine (HK.out _ _).mono ?_
        rintro e w1 ⟨rfl, hw⟩
        obtain rfl := hw.symm
        by_cases hz : 6 < l[k].1.size
        · have HE : Hid (∃ p ∈ l, 6 < p.1.size) := ⟨_, List.getElem_mem hlt, hz⟩
          rw [decide_eq_true (by omega : (6 : Int) < (l[k].1.size : Int))]
          go_wp2_with fail
          go_ret
          exact ⟨by rw [← HF3.out 3 (.inl HE.out) rfl]; rfl, HH.out.2.alloc HH.out.2.size _⟩
        · rw [decide_eq_false (by omega : ¬ (6 : Int) < (l[k].1.size : Int))]
          have HE : Hid (∀ j, (h : j < l.length) → j < k + 1 → ¬ 6 < l[j].1.size) := fun j hj hjk => by
            by_cases e : j = k
            · subst e; exact hz
            · exact HH.out.1 j hj (by omega)
          clear hz
          go_wp2_with fail
          exact ⟨⟨k + 1, by go_num, by omega, HE.out, HH.out.2.alloc HH.out.2.size _⟩, by simp [intOf]; omega⟩
      · have i2 : ¬ (k : Int) < (l.length : Int) := by omega
        have HE : Hid (∀ p ∈ l, ¬ 6 < p.1.size) := fun s hs => by
          obtain ⟨j, hj, rfl⟩ := List.getElem_of_mem hs
          exact HH.out.1 j hj (by omega)
        have HBr := hid HH.out.2
        clear HH hk
        go_wp2_with fail
        refine (HK.out _ _).mono ?_
        rintro e w1 ⟨rfl, hw⟩
        obtain rfl := hw.symm
        by_cases hz : 6 < key.size
        · rw [decide_eq_true (by omega : (6 : Int) < (key.size : Int))]
          have HZ := hid hz
          go_wp2_with fail
          go_ret
          exact ⟨by rw [← HF3.out 3 (.inr HZ.out) rfl]; rfl, HBr.out⟩
        · rw [decide_eq_false (by omega : ¬ (6 : Int) < (key.size : Int))]
          have HZ := hid hz
          clear hz
          go_wp2_with fail
          go_loopw [8, 26] (fun _ i wx => ∃ k : Nat, i = .int .i64 k ∧ k ≤ l.length ∧ Hid ((∀ j, (h : j < l.length) → j < k → ¬ 40 < l[j].2.size) ∧ Below w.heap.size w wx)) (fun _ i _ => l.length - (intOf i).toNat)
          case atStart => exact ⟨0, rfl, Nat.zero_le _, fun j _ h => by omega, HBr.out⟩
          case round =>
            obtain ⟨m, rfl, hm, HM⟩ := hrel
            by_cases hlt : m < l.length
            · obtain ⟨b, off, rfl, hb, e0, e1⟩ := HR.out m hlt
              have f0 := (HM.out.2.cell (p := ⟨b, off + m * 2, none⟩) hb).trans e0
              have f1 := (HM.out.2.cell (p := ⟨b, off + m * 2 + 1, none⟩) hb).trans e1
              have i1 : (0 : Int) ≤ (m : Int) := by omega
              have i3 : (m : Int) < (l.length : Int) := by omega
              clear e0 e1
              by_cases hv : 40 < l[m].2.size
              · have HV : Hid (∃ p ∈ l, 40 < p.2.size) := ⟨_, List.getElem_mem hlt, hv⟩
                have hv' : (40 : Int) < (l[m].2.size : Int) := by omega
                clear hv
                go_wp2_with fail
                go_ret
                exact ⟨by rw [← HF4.out 4 HE.out HZ.out HV.out rfl]; rfl, HM.out.2.alloc HM.out.2.size _⟩
              · have hv' : ¬ (40 : Int) < (l[m].2.size : Int) := by omega
                have HV : Hid (∀ j, (h : j < l.length) → j < m + 1 → ¬ 40 < l[j].2.size) := fun j hj hjk => by
                  by_cases e : j = m
                  · subst e; exact hv
                  · exact HM.out.1 j hj (by omega)
                clear hv
                go_wp2_with fail
                exact ⟨⟨m + 1, by go_num, by omega, HV.out, HM.out.2.alloc HM.out.2.size _⟩, by simp [intOf]; omega⟩
            · have i3 : ¬ (m : Int) < (l.length : Int) := by omega
              have HV : Hid (∀ p ∈ l, ¬ 40 < p.2.size) := fun s hs => by
                obtain ⟨j, hj, rfl⟩ := List.getElem_of_mem hs
                exact HM.out.1 j hj (by omega)
              go_wp2_with fail
              go_ret
              exact ⟨by rw [← HF0.out 0 HE.out HZ.out HV.out rfl]; rfl, HM.out.2⟩
end Go.Proofs.YtbmohenjphmlgabGreat

/- Rows of texts of a call's own. -/
namespace Go.Proofs.YtbmohenjphmlgabGreat
open Go.RowKit
set_option maxRecDepth 100000

theorem infoText : (Tryz.prog.info? 9).map (fun i => (i.zero, i.size, i.bytes)) = some (some (.string ⟨#[]⟩), 1, 16) := by kernel_rfl

def tcells (l : List ByteArray) : List Value := l.map .string
theorem tcells_len (l : List ByteArray) : (tcells l).length = l.length := by simp [tcells]
theorem tcells_at (l : List ByteArray) (i : Nat) (hi : i < l.length) : (tcells l)[i]? = some (.string l[i]) := by simp [tcells, hi]
theorem tcells_one (l : List ByteArray) : ∀ u ∈ tcells l, u.oneCell' = true := by
  intro u hu
  obtain ⟨s, _, rfl⟩ := List.mem_map.1 hu
  rfl

def TOwn (w : World) (base : Nat) (v : Value) (l : List ByteArray) : Prop := w.ownsRow base 9 1 v l.length (tcells l)

theorem town_nil (w : World) (base : Nat) : TOwn w base (.slice none 0 0) [] := World.ownsRow_nil _ _ _ _
theorem town_shape {w : World} {base : Nat} {v : Value} {l : List ByteArray} (h : TOwn w base v l) : ∃ a cap, v = .slice a l.length cap ∧ l.length ≤ cap := by
  rcases h.2 with ⟨rfl, h0⟩ | ⟨g, cap, cur, rfl, _, _, hn, _⟩
  · exact ⟨none, 0, by rw [h0], by omega⟩
  · exact ⟨_, cap, rfl, hn⟩
theorem town_frame {w w' : World} {b : Nat} {v : Value} {l : List ByteArray} (h : TOwn w b v l) (hg : ∀ g, v.ownBlock = some g → w'.heap[g]? = w.heap[g]?) : TOwn w' b v l := owns_frame h hg
theorem town_lt {w : World} {b : Nat} {v : Value} {l : List ByteArray} (h : TOwn w b v l) : ∀ g, v.ownBlock = some g → b ≤ g ∧ g < w.heap.size := World.ownsRow.lt h
theorem town_later {w w' : World} {b : Nat} {v : Value} {l : List ByteArray} (h : TOwn w b v l) (hb : Below w.heap.size w w') : TOwn w' b v l := town_frame h fun g hg => hb.block g (town_lt h g hg).2

theorem town_rd {w : World} {base : Nat} {a : Option Addr} {n cap : Nat} {l : List ByteArray} (h : TOwn w base (.slice a n cap) l) : SRd w.heap.size w a l := by
  intro i hi
  rcases h.2 with ⟨_, h0⟩ | ⟨g, cap', cur, hv, hbg, hg, _⟩
  · omega
  · have hlt := (Array.getElem?_eq_some_iff.1 hg).1
    simp only [Value.slice.injEq] at hv
    obtain ⟨rfl, _, _⟩ := hv
    have hc := World.ownsRow.cells (g := g) h rfl
    have a0 : ((⟨g, 0, none⟩ : Addr).add i) = ⟨g, 0 + i, none⟩ := by unfold Addr.add; split <;> simp_all
    exact ⟨g, 0, rfl, hlt, a0 ▸ hc _ _ (tcells_at l i hi)⟩

theorem tcells_snoc (l : List ByteArray) (p : ByteArray) : tcells (l ++ [p]) = tcells l ++ [.string p] := by simp [tcells]

theorem cells_lone (w : World) (a : Value) (e : TypeId) : ∀ j u, [a][j]? = some u → (w.alloc (.cells #[a] e)).cell? ((⟨w.heap.size, 0, none⟩ : Addr).add j) = some u := by
  intro j u hu
  match j with
  | 0 =>
    have e0 : u = a := by simpa using hu.symm
    subst e0
    have hh : (w.alloc (.cells #[u] e)).heap[w.heap.size]? = some (.cells #[u] e (0, 0)) := heap_alloc_new w _
    exact (cell_of_row _ _ 0 _ _ _ hh).trans rfl
  | j + 1 => simp at hu

/-- A text that was just laid is appended to a row of the call's own: for a walk. -/
theorem wpList_push_text {ops : Array Oper} {rest : List Oper} {o : Oper} {act : Act} {Q' : Exit → Act → World → Prop} (hgd : o.guard = none) (s x : Operand)
    (hop : o.op = .call { callee := .builtin .append, args := #[s, x], argTypes := #[23, 23] }) {W w0 wr : World} {B : Nat} {v1 : Value} {l1 : List ByteArray} (p : ByteArray) (L : Nat) (hL : wr.heap.size = L)
    (hs : act.eval s = v1) (hx : act.eval x = .slice (some ⟨L, 0, none⟩) 1 1) (ho : TOwn w0 B v1 l1) (hw : Below w0.heap.size w0 wr) (hb : Below B W w0) (hB : B ≤ W.heap.size) (hlen : l1.length ≤ 1000000)
    (h : ∀ v' w', TOwn w' B v' (l1 ++ [p]) → Below B W w' → wpList Tryz.prog ops Q' rest (act.put o.dst v') w') : wpList Tryz.prog ops Q' (o :: rest) act (wr.alloc (.cells #[.string p] 9)) := by
  subst hL
  obtain ⟨i0, hi, hz0, hz1, hz2⟩ := info_parts infoText
  have hb1 : Below B W wr := hb.trans (hw.mono (Nat.le_trans hB hb.size))
  have hb2 : Below B W (wr.alloc (.cells #[.string p] 9)) := hb1.alloc (Nat.le_trans hB hb1.size) _
  have hBw : B ≤ (wr.alloc (.cells #[.string p] 9)).heap.size := Nat.le_trans hB hb2.size
  have ho2 : TOwn (wr.alloc (.cells #[.string p] 9)) B v1 l1 := town_frame ho (fun g hg => by
    rw [Below.heap_alloc _ _ _ (Nat.lt_of_lt_of_le (town_lt ho g hg).2 hw.size)]
    exact hw.block g (town_lt ho g hg).2)
  refine wpList_append_mine _ hgd s x 23 hop B 9 i0 _ 1 16 Tryz.underlying23 hi hz0 hz1 hz2 rfl (by decide) v1 l1.length (tcells l1) hs ho2 ⟨wr.heap.size, 0, none⟩ 1 1 [.string p] hx rfl (cells_lone _ _ _) (by simp [Value.oneCell']) (by unfold maxLen; omega) (by omega) hBw ?_
  intro v' w' ho' hg _
  refine h v' w' ?_ (hb2.grown hg hBw (fun g hgg => (town_lt ho g hgg).1))
  unfold TOwn
  rw [List.length_append, tcells_snoc]
  exact ho'

/-- A text that was just laid is appended to a row of the call's own: at a step of a region that draws. -/
theorem step_push_text {ops : Array Oper} {o : Oper} {act : Act} {K : Act → World → Prop} {Q' : Exit → Act → World → Prop} {E : Prop} (hgd : o.guard = none) (s x : Operand)
    (hop : o.op = .call { callee := .builtin .append, args := #[s, x], argTypes := #[23, 23] }) {wr : World} {B : Nat} {v1 : Value} {l1 : List ByteArray} (p : ByteArray) (L : Nat) (hL : wr.heap.size = L)
    (hs : act.eval s = v1) (hx : act.eval x = .slice (some ⟨L, 0, none⟩) 1 1) (ho : TOwn wr B v1 l1) (hB : B ≤ wr.heap.size) (hlen : l1.length ≤ 1000000)
    (h : ∀ v' w', TOwn w' B v' (l1 ++ [p]) → Below B wr w' → (∀ k, k < wr.heap.size → v1.ownBlock ≠ some k → w'.heap[k]? = wr.heap[k]?) → K (act.put o.dst v') w') : if Region.wanted o (yielded ops act.tmps) = true then Oper.wp Tryz.prog o act (wr.alloc (.cells #[.string p] 9)) K Q' else E := by
  subst hL
  have hw : Region.wanted o (yielded ops act.tmps) = true := by simp [Region.wanted, hgd]
  rw [if_pos hw]
  obtain ⟨i0, hi, hz0, hz1, hz2⟩ := info_parts infoText
  have hb2 : Below B wr (wr.alloc (.cells #[.string p] 9)) := (Below.refl _ _).alloc hB _
  have hBw : B ≤ (wr.alloc (.cells #[.string p] 9)).heap.size := Nat.le_trans hB hb2.size
  have ho2 : TOwn (wr.alloc (.cells #[.string p] 9)) B v1 l1 := town_frame ho (fun g hg => Below.heap_alloc _ _ _ (town_lt ho g hg).2)
  obtain ⟨v', w', hr, h2, h3, _⟩ := run_append_mine (P := Tryz.prog) _ B 23 o.type 9 i0 _ 1 16 Tryz.underlying23 hi hz0 hz1 hz2 rfl (by decide) v1 l1.length (tcells l1) ho2 ⟨wr.heap.size, 0, none⟩ 1 1 [.string p] rfl (cells_lone _ _ _) (by simp [Value.oneCell']) (by unfold maxLen; omega) (by omega) hBw
  unfold Oper.wp execOp
  simp only [hop, resolve, invoke, builtin, Sem.run_bind, Sem.run_pure, Result.andThen_ok, List.map_toArray, List.map_cons, List.map_nil, hs, hx, hr]
  refine h v' w' ?_ (hb2.grown h3 hBw (fun g hgg => (town_lt ho g hgg).1)) (fun k hk hne => (h3.block k (by rw [alloc_size]; omega) (fun e => hne e.symm)).trans (Below.heap_alloc _ _ _ hk))
  unfold TOwn
  rw [List.length_append, tcells_snoc]
  exact h2

end Go.Proofs.YtbmohenjphmlgabGreat

/- Rows of nodes (of the program). -/
namespace Go.Proofs.YtbmohenjphmlgabGreat
open Go.RowKit
set_option maxRecDepth 100000

theorem infoNode : (Tryz.prog.info? 69).map (fun i => (i.zero, i.size, i.bytes)) = some (some .nilIface, 1, 16) := by kernel_rfl

theorem node_one {v : Value} (h : IsNode v) : v.oneCell' = true := by
  rcases h with rfl | ⟨T, x, rfl⟩ <;> rfl

/-- A row of nodes of a call's own. -/
def NOwn (w : World) (base : Nat) (v : Value) (l : List Value) : Prop := w.ownsRow base 69 1 v l.length l

theorem nown_nil (w : World) (base : Nat) : NOwn w base (.slice none 0 0) [] := World.ownsRow_nil _ _ _ _
theorem nown_shape {w : World} {base : Nat} {v : Value} {l : List Value} (h : NOwn w base v l) : ∃ a cap, v = .slice a l.length cap ∧ l.length ≤ cap := by
  rcases h.2 with ⟨rfl, h0⟩ | ⟨g, cap, cur, rfl, _, _, hn, _⟩
  · exact ⟨none, 0, by rw [h0], by omega⟩
  · exact ⟨_, cap, rfl, hn⟩
theorem nown_frame {w w' : World} {b : Nat} {v : Value} {l : List Value} (h : NOwn w b v l) (hg : ∀ g, v.ownBlock = some g → w'.heap[g]? = w.heap[g]?) : NOwn w' b v l := owns_frame h hg
theorem nown_lt {w : World} {b : Nat} {v : Value} {l : List Value} (h : NOwn w b v l) : ∀ g, v.ownBlock = some g → b ≤ g ∧ g < w.heap.size := World.ownsRow.lt h
theorem nown_later {w w' : World} {b : Nat} {v : Value} {l : List Value} (h : NOwn w b v l) (hb : Below w.heap.size w w') : NOwn w' b v l := nown_frame h fun g hg => hb.block g (nown_lt h g hg).2

/-- A row of nodes that can be read. -/
def NRd (B : Nat) (w : World) (a : Option Addr) (l : List Value) : Prop :=
  ∀ i, (h : i < l.length) → ∃ b off, a = some ⟨b, off, none⟩ ∧ b < B ∧ w.cell? ⟨b, off + i, none⟩ = some l[i]

theorem NRd.later {B : Nat} {w w' : World} {a : Option Addr} {l : List Value} (h : NRd B w a l) (hb : Below B w w') : NRd B w' a l := by
  intro i hi
  obtain ⟨b, off, rfl, hlt, c0⟩ := h i hi
  exact ⟨b, off, rfl, hlt, (hb.cell (p := ⟨b, off + i, none⟩) hlt).trans c0⟩

theorem nown_rd {w : World} {base : Nat} {a : Option Addr} {n cap : Nat} {l : List Value} (h : NOwn w base (.slice a n cap) l) : NRd w.heap.size w a l := by
  intro i hi
  rcases h.2 with ⟨_, h0⟩ | ⟨g, cap', cur, hv, hbg, hg, _⟩
  · omega
  · have hlt := (Array.getElem?_eq_some_iff.1 hg).1
    simp only [Value.slice.injEq] at hv
    obtain ⟨rfl, _, _⟩ := hv
    have hc := World.ownsRow.cells (g := g) h rfl
    have a0 : ((⟨g, 0, none⟩ : Addr).add i) = ⟨g, 0 + i, none⟩ := by unfold Addr.add; split <;> simp_all
    exact ⟨g, 0, rfl, hlt, a0 ▸ hc _ _ (List.getElem?_eq_getElem hi)⟩

/-- A node that was just laid is appended to a row of the call's own: for a walk. -/
theorem wpList_push_node {ops : Array Oper} {rest : List Oper} {o : Oper} {act : Act} {Q' : Exit → Act → World → Prop} (hgd : o.guard = none) (s x : Operand)
    (hop : o.op = .call { callee := .builtin .append, args := #[s, x], argTypes := #[95, 95] }) {W w0 wr : World} {B : Nat} {v1 : Value} {l1 : List Value} (p : Value) (hp : IsNode p) (L : Nat) (hL : wr.heap.size = L)
    (hs : act.eval s = v1) (hx : act.eval x = .slice (some ⟨L, 0, none⟩) 1 1) (ho : NOwn w0 B v1 l1) (hw : Below w0.heap.size w0 wr) (hb : Below B W w0) (hB : B ≤ W.heap.size) (hlen : l1.length ≤ 1000000)
    (h : ∀ v' w', NOwn w' B v' (l1 ++ [p]) → Below B W w' → (∀ k, k < wr.heap.size → v1.ownBlock ≠ some k → w'.heap[k]? = wr.heap[k]?) → (∀ b, v'.ownBlock = some b → v1.ownBlock = some b ∨ wr.heap.size ≤ b) → wr.heap.size ≤ w'.heap.size → wpList Tryz.prog ops Q' rest (act.put o.dst v') w') : wpList Tryz.prog ops Q' (o :: rest) act (wr.alloc (.cells #[p] 69)) := by
  subst hL
  obtain ⟨i0, hi, hz0, hz1, hz2⟩ := info_parts infoNode
  have hb1 : Below B W wr := hb.trans (hw.mono (Nat.le_trans hB hb.size))
  have hb2 : Below B W (wr.alloc (.cells #[p] 69)) := hb1.alloc (Nat.le_trans hB hb1.size) _
  have hBw : B ≤ (wr.alloc (.cells #[p] 69)).heap.size := Nat.le_trans hB hb2.size
  have ho2 : NOwn (wr.alloc (.cells #[p] 69)) B v1 l1 := nown_frame ho (fun g hg => by
    rw [Below.heap_alloc _ _ _ (Nat.lt_of_lt_of_le (nown_lt ho g hg).2 hw.size)]
    exact hw.block g (nown_lt ho g hg).2)
  refine wpList_append_mine _ hgd s x 95 hop B 69 i0 _ 1 16 Tryz.underlying95 hi hz0 hz1 hz2 rfl (by decide) v1 l1.length l1 hs ho2 ⟨wr.heap.size, 0, none⟩ 1 1 [p] hx rfl (cells_lone _ _ _) (by intro u hu; rw [List.mem_singleton.1 hu]; exact node_one hp) (by unfold maxLen; omega) (by omega) hBw ?_
  intro v' w' ho' hg hn
  refine h v' w' ?_ (hb2.grown hg hBw (fun g hgg => (nown_lt ho g hgg).1)) (fun k hk hne => (hg.block k (by rw [alloc_size]; omega) (fun e => hne e.symm)).trans (Below.heap_alloc _ _ _ hk)) ?_ (by have := hg.size; rw [alloc_size] at this; omega)
  rotate_left
  · intro b hb'
    rcases hn with e | ⟨g, e, hle⟩
    · left; rw [← e]; exact hb'
    · right; rw [e] at hb'; cases hb'; rw [alloc_size] at hle; omega
  unfold NOwn
  rw [List.length_append]
  exact ho'

/-- Items in lists of a call's own can be read, in their blocks. -/
theorem repW_of_own {E : TypeId} {w : World} {lo0 B : Nat} : ∀ (n lo hi : Nat) (v : Value) (t : Itm), lo0 ≤ lo → hi ≤ B → Own E w n lo hi v t → RepW lo0 B w n v t := by
  intro n
  induction n with
  | zero => intro lo hi v t _ _ h; exact h
  | succ n ih =>
    intro lo hi v t hlo hB h
    obtain ⟨sl, hv, xs, ho, hg, L, H, hL, _⟩ := h
    rcases ho.2 with ⟨rfl, h0⟩ | ⟨g, cap, cur, rfl, _, _, hnc, hcm, _⟩
    · refine ⟨none, 0, by rw [hv, h0], by rw [h0]; exact Nat.zero_le _, fun i hi => ?_⟩
      omega
    · refine ⟨some ⟨g, 0, none⟩, cap, hv, Nat.le_trans hnc hcm, fun i hi => ?_⟩
      obtain ⟨q1, q2, q3, q4⟩ := hL i hi
      obtain ⟨e0, e1, e2⟩ := tri_cells ho i hi
      have hgl := hg g rfl
      exact ⟨g, 0, _, _, _, rfl, by omega, by omega, e0, e1, e2, ih (L i) (H i) _ _ (by omega) (by omega) q4⟩

/-- What stands in a row is what was read of texts; nothing of it lies in block g. -/
def NodesOf (L : Nat) (g : Option Nat) (C : Nat) (w : World) (vs : List Value) (p : List ByteArray) : Prop :=
  vs.length = p.length ∧ ∀ i (h : i < p.length), ∃ v t lo B m, vs[i]? = some v ∧ Tr.reads p[i].data.toList = some t ∧ B ≤ C ∧ ((∀ b, g = some b → b < lo ∨ B ≤ b) ∧ L ≤ lo) ∧ RN lo B w m v t

theorem nodes_nil (L : Nat) (g : Option Nat) (C : Nat) (w : World) : NodesOf L g C w [] [] := ⟨rfl, fun i h => by simp at h⟩

theorem nodes_turn {L : Nat} {g g' : Option Nat} {C C' : Nat} {w w' : World} {vs : List Value} {p : List ByteArray} (h : NodesOf L g C w vs p) (hc : C ≤ C') (hg : ∀ b, g' = some b → g = some b ∨ C ≤ b) (hb : ∀ k, k < C → g ≠ some k → w'.heap[k]? = w.heap[k]?) : NodesOf L g' C' w' vs p := by
  refine ⟨h.1, fun i hi => ?_⟩
  obtain ⟨v, t, lo, B, m, h1, h2, h3, ⟨h4, hL⟩, h5⟩ := h.2 i hi
  refine ⟨v, t, lo, B, m, h1, h2, Nat.le_trans h3 hc, ⟨fun b hb' => ?_, hL⟩, rn_turn (Nat.le_refl _) (Nat.le_refl _) (fun k k1 k2 => hb k (by omega) (fun e => ?_)) _ _ _ h5⟩
  · rcases hg b hb' with e | e
    · exact h4 b e
    · right; omega
  · have := h4 k e; omega

theorem nodes_later {L : Nat} {g : Option Nat} {C : Nat} {w w' : World} {vs : List Value} {p : List ByteArray} (h : NodesOf L g C w vs p) (hb : Below C w w') : NodesOf L g C w' vs p := nodes_turn h (Nat.le_refl _) (fun _ h => .inl h) (fun k hk _ => hb.block k hk)

theorem nodes_wider {L : Nat} {g : Option Nat} {C C' : Nat} {w : World} {vs : List Value} {p : List ByteArray} (h : NodesOf L g C w vs p) (hc : C ≤ C') : NodesOf L g C' w vs p := nodes_turn h hc (fun _ h => .inl h) (fun _ _ _ => rfl)

theorem nodes_snoc {L : Nat} {g : Option Nat} {C : Nat} {w : World} {vs : List Value} {p : List ByteArray} {v : Value} {s : ByteArray} {t : Itm} {lo B m : Nat} (h : NodesOf L g C w vs p) (hL : L ≤ lo) (ht : Tr.reads s.data.toList = some t) (hB : B ≤ C) (hg : ∀ b, g = some b → b < lo ∨ B ≤ b) (hr : RN lo B w m v t) : NodesOf L g C w (vs ++ [v]) (p ++ [s]) := by
  refine ⟨by simp [h.1], fun i hi => ?_⟩
  rw [List.length_append, List.length_singleton] at hi
  by_cases h2 : i < p.length
  · obtain ⟨v', t', lo', B', m', h1, h3, h4⟩ := h.2 i h2
    refine ⟨v', t', lo', B', m', ?_, ?_, h4⟩
    · rw [List.getElem?_append_left (by rw [h.1]; exact h2)]; exact h1
    · rw [List.getElem_append_left h2]; exact h3
  · obtain rfl : i = p.length := by omega
    refine ⟨v, t, lo, B, m, ?_, ?_, hB, ⟨hg, hL⟩, hr⟩
    · rw [← h.1]; simp
    · simp; exact ht
end Go.Proofs.YtbmohenjphmlgabGreat

/- The walk of read (of the program): the sound node whose bytes a text is. -/
namespace Go.Proofs.YtbmohenjphmlgabGreat
open Go.RowKit
set_option maxRecDepth 100000

theorem dec_reads {l : List UInt8} (hl : l.length ≤ 1000) : Tr.reads l = match Itm.dec l with | .error _ => none | .ok t => if Tr.sound t then some t else none := by
  unfold Tr.reads Tr.whole Itm.dec
  rw [if_neg (by omega)]
  cases hp : Itm.parse l.length l with
  | none => rfl
  | some x =>
    obtain ⟨t, rest⟩ := x
    cases rest with
    | nil =>
      simp only [List.isEmpty_nil, if_true]
      by_cases h8 : 8 < Itm.deep t
      · rw [if_pos h8]
        show (if Tr.sound t = true then some t else none) = none
        rw [if_neg]
        intro hs
        have := Tr.sound_deep hs
        omega
      · rw [if_neg h8]
    | cons c r => rfl

theorem dec_small {l : List UInt8} {t : Itm} (h : Itm.dec l = .ok t) : Small t := by
  unfold Itm.dec at h
  split at h
  · cases h
  · rename_i hl
    split at h
    · cases h
    · rename_i u rest hp
      split at h
      · rename_i hr
        split at h
        · cases h
        · rename_i h8
          cases h
          obtain ⟨h1, h2⟩ := Itm.parse_sound _ _ _ _ hp
          rw [List.isEmpty_iff.1 hr, List.append_nil] at h1
          exact ⟨h2, by omega, by rw [← h1]; omega⟩
      · cases h

theorem dec_err {l : List UInt8} {n : Nat} (h : Itm.dec l = .error n) : n = 1 ∨ n = 2 := by
  unfold Itm.dec at h
  split at h
  · cases h; exact .inr rfl
  · split at h
    · cases h; exact .inl rfl
    · split at h
      · split at h
        · cases h; exact .inr rfl
        · cases h
      · cases h; exact .inl rfl

set_option maxHeartbeats 1600000 in
theorem read_any (s : ByteArray) (w : World) (hs : s.size ≤ 1000) : Calls Tryz.prog 104 #[.string s] w fun e w' => ∃ v, e = .returned (.tuple #[v, .bool (Tr.reads s.data.toList).isSome]) ∧ IsNode v ∧ (∀ t, Tr.reads s.data.toList = some t → ∃ B m, B ≤ w'.heap.size ∧ RN w.heap.size B w' m v t) ∧ Below w.heap.size w w' := by
  have hdr := dec_reads (l := s.data.toList) (by rw [ba_len]; exact hs)
  have HD := hid (fun w => itemsDecode_any s w)
  cases hd : Itm.dec s.data.toList with
  | error n =>
    rw [hd] at hdr
    have HN : Hid (Tr.reads s.data.toList = none) := hdr
    have hn := dec_err hd
    have hn0 : ¬ (n : Int) = 0 := by omega
    have HDE := hid hd
    clear hdr hd hs hn
    go_enter Tryz.func104, Tryz.ntmps104
    go_wp2_with fail
    refine (HD.out _).mono ?_
    rintro e w1 ⟨h1, _, b1⟩
    obtain rfl := h1 n HDE.out
    have HB1 : Hid (Below w.heap.size w w1) := b1
    clear b1 h1
    go_wp2_with fail
    exact bodyPost_ret (v := .tuple #[.nilIface, .bool false]) (by simp [results, Tryz.results104, go_sem]) rfl ⟨_, by rw [HN.out]; rfl, .inl rfl, (fun t h => by rw [HN.out] at h; cases h), HB1.out.alloc HB1.out.size _⟩
  | ok t =>
    rw [hd] at hdr
    have HN : Hid (Tr.reads s.data.toList = if Tr.sound t then some t else none) := hdr
    have HDE := hid hd
    have HSM := hid (dec_small hd)
    clear hdr hd hs
    go_enter Tryz.func104, Tryz.ntmps104
    go_wp2_with fail
    refine (HD.out _).mono ?_
    rintro e w1 ⟨_, h1, b1⟩
    obtain ⟨v, rfl, ow⟩ := h1 t HDE.out
    have HRP := hid (repW_of_own _ _ _ _ _ (Nat.le_refl _) (Nat.le_refl _) ow)
    obtain ⟨a1, c1, rfl⟩ := ow_shape ow
    have HB1 : Hid (Below w.heap.size w w1) := b1
    have HM := hid (fun w' (b : Below w1.heap.size w1 w') => readOk_all s.size w.heap.size w1.heap.size w' _ _ _ _ _ t b.size HSM.out (repW_frame b _ _ _ HRP.out))
    clear b1 h1 ow
    go_wp2_with fail
    have HB2 : Hid (Below w1.heap.size w1 (w1.alloc (.cells #[.bool t.list, .string ⟨t.bytes.toArray⟩, .slice a1 t.items.length c1] 50))) := (Below.refl _ _).alloc (Nat.le_refl _) _
    refine (HM.out _ HB2.out).mono ?_
    rintro e w3 ⟨v3, rfl, n3, r3, b3⟩
    have HN3 := hid n3
    have HR3 := hid r3
    have HB3 : Hid (Below w.heap.size w w3) := (HB1.out.trans (HB2.out.mono HB1.out.size)).trans (b3.mono (Nat.le_trans HB1.out.size HB2.out.size))
    have HBS : Hid (w1.heap.size ≤ w3.heap.size) := Nat.le_trans HB2.out.size b3.size
    clear n3 r3 b3
    obtain ⟨sd, hsd⟩ : ∃ b, b = Tr.sound t := ⟨_, rfl⟩
    have HSD := hid hsd
    rw [← hsd]
    clear hsd
    go_wp2_with fail
    refine bodyPost_ret (v := .tuple #[v3, .bool sd]) (by simp [results, Tryz.results104, go_sem]) rfl ⟨_, ?_, HN3.out, ?_, HB3.out⟩
    · rw [HN.out, HSD.out]
      cases Tr.sound t <;> rfl
    · intro t' ht
      rw [HN.out] at ht
      split at ht
      · rename_i h
        cases ht
        exact ⟨_, _, HBS.out, HR3.out h⟩
      · cases ht
end Go.Proofs.YtbmohenjphmlgabGreat
