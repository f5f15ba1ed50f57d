/- The walks of proofFault and tableFault (of the program). -/
import Derived.Test.YtbmohenjphmlgaaPrKeys
import Derived.Test.YtbmohenjphmlgaaPrPairs
namespace Go.Proofs.Ytbmohenjphmlgaa
open Go.RowKit
set_option maxRecDepth 100000

/-- Texts in a row, in blocks below B. -/
def SRd (B : Nat) (w : World) (a : Option Addr) (l : List ByteArray) : Prop :=
  ∀ i, (h : i < l.length) → ∃ b off, a = some ⟨b, off, none⟩ ∧ b < B ∧ w.cell? ⟨b, off + i, none⟩ = some (.string l[i])

theorem SRd.later {B : Nat} {w w' : World} {a : Option Addr} {l : List ByteArray} (h : SRd B w a l) (hb : Below B w w') : SRd B w' a l := by
  intro i hi
  obtain ⟨b, off, rfl, hlt, c0⟩ := h i hi
  exact ⟨b, off, rfl, hlt, (hb.cell (p := ⟨b, off + i, none⟩) hlt).trans c0⟩

theorem SRd.wider {B B' : Nat} {w : World} {a : Option Addr} {l : List ByteArray} (h : SRd B w a l) (hB : B ≤ B') : SRd B' w a l := by
  intro i hi
  obtain ⟨b, off, e, hlt, c0⟩ := h i hi
  exact ⟨b, off, e, Nat.lt_of_lt_of_le hlt hB, c0⟩

theorem srd_nil (B : Nat) (w : World) (a : Option Addr) : SRd B w a [] := fun i hi => by simp at hi

/-- What is wrong with a proof before it is looked into. -/
def pfault (root key : ByteArray) (l : List ByteArray) : Nat :=
  if root.size ≠ 8 then 5 else if 6 < key.size then 3 else if 20 < l.length then 2 else if ∃ s ∈ l, 1000 < s.size then 2 else 0

theorem pfault_root {root key : ByteArray} {l : List ByteArray} (h : root.size ≠ 8) : pfault root key l = 5 := by unfold pfault; rw [if_pos h]
theorem pfault_key {root key : ByteArray} {l : List ByteArray} (h : root.size = 8) (h2 : 6 < key.size) : pfault root key l = 3 := by unfold pfault; rw [if_neg (by omega), if_pos h2]
theorem pfault_many {root key : ByteArray} {l : List ByteArray} (h : root.size = 8) (h2 : ¬ 6 < key.size) (h3 : 20 < l.length) : pfault root key l = 2 := by unfold pfault; rw [if_neg (by omega), if_neg h2, if_pos h3]
theorem pfault_big {root key : ByteArray} {l : List ByteArray} (h : root.size = 8) (h2 : ¬ 6 < key.size) (h3 : ¬ 20 < l.length) (h4 : ∃ s ∈ l, 1000 < s.size) : pfault root key l = 2 := by unfold pfault; rw [if_neg (by omega), if_neg h2, if_neg h3, if_pos h4]
theorem pfault_ok {root key : ByteArray} {l : List ByteArray} (h : root.size = 8) (h2 : ¬ 6 < key.size) (h3 : ¬ 20 < l.length) (h4 : ∀ s ∈ l, ¬ 1000 < s.size) : pfault root key l = 0 := by unfold pfault; rw [if_neg (by omega), if_neg h2, if_neg h3, if_neg (fun ⟨s, hs, h⟩ => h4 s hs h)]

set_option maxHeartbeats 1600000 in
theorem proofFault_any (root key : ByteArray) (a : Option Addr) (cap : Nat) (l : List ByteArray) (w : World) (hr : SRd w.heap.size w a l) : Calls Try.prog 103 #[.string root, .string key, .slice a l.length cap] w fun e w' => e = .returned (.int .i64 (pfault root key l)) ∧ w' = w := by
  have HI := hid (fun s w => isRoot_any s w)
  have HK := hid (fun s w => isLongKey_any s w)
  have HR := hid hr
  clear hr
  by_cases h1 : root.size = 8
  · have D1 : Hid (decide ((root.size : Int) = 8) = true) := decide_eq_true (by omega)
    by_cases h2 : 6 < key.size
    · have D2 : Hid (decide ((6 : Int) < key.size) = true) := decide_eq_true (by omega)
      rw [pfault_key h1 h2]
      clear h1 h2
      go_enter Try.func103, Try.ntmps103
      go_wp2_with fail
      refine (HI.out _ _).mono ?_
      rintro e w1 ⟨rfl, hw⟩
      obtain rfl := hw.symm
      rw [D1.out]
      go_wp2_with fail
      refine (HK.out _ _).mono ?_
      rintro e w1 ⟨rfl, hw⟩
      obtain rfl := hw.symm
      rw [D2.out]
      go_wp2_with fail
      go_ret
      exact ⟨rfl, rfl⟩
    · have D2 : Hid (decide ((6 : Int) < key.size) = false) := decide_eq_false (by omega)
      by_cases h3 : 20 < l.length
      · rw [pfault_many h1 h2 h3]
        have h3' : (20 : Int) < (l.length : Int) := by omega
        clear h1 h2 h3
        go_enter Try.func103, Try.ntmps103
        go_wp2_with fail
        refine (HI.out _ _).mono ?_
        rintro e w1 ⟨rfl, hw⟩
        obtain rfl := hw.symm
        rw [D1.out]
        go_wp2_with fail
        refine (HK.out _ _).mono ?_
        rintro e w1 ⟨rfl, hw⟩
        obtain rfl := hw.symm
        rw [D2.out]
        go_wp2_with fail
        go_ret
        exact ⟨rfl, rfl⟩
      · have h3' : ¬ (20 : Int) < (l.length : Int) := by omega
        have HF : Hid (∀ n, (∃ s ∈ l, 1000 < s.size) → n = 2 → n = pfault root key l) := fun n h hn => by rw [hn, pfault_big h1 h2 h3 h]
        have HG : Hid (∀ n, (∀ s ∈ l, ¬ 1000 < s.size) → n = 0 → n = pfault root key l) := fun n h hn => by rw [hn, pfault_ok h1 h2 h3 h]
        generalize pfault root key l = N at *
        clear h1 h2
        go_enter Try.func103, Try.ntmps103
        go_wp2_with fail
        refine (HI.out _ _).mono ?_
        rintro e w1 ⟨rfl, hw⟩
        obtain rfl := hw.symm
        rw [D1.out]
        go_wp2_with fail
        refine (HK.out _ _).mono ?_
        rintro e w1 ⟨rfl, hw⟩
        obtain rfl := hw.symm
        rw [D2.out]
        go_wp2_with fail
        go_loopw [8, 22] (fun _ i wr => ∃ k : Nat, i = .int .i64 k ∧ k ≤ l.length ∧ Hid (∀ j, (h : j < l.length) → j < k → ¬ 1000 < l[j].size) ∧ wr = w) (fun _ i _ => l.length - (intOf i).toNat)
        case atStart => exact ⟨0, rfl, Nat.zero_le _, fun j _ h => by omega, rfl⟩
        case round =>
          obtain ⟨k, rfl, hk, HH, rfl⟩ := hrel
          by_cases hlt : k < l.length
          · obtain ⟨b, off, rfl, hb, e0⟩ := HR.out k hlt
            have i1 : (0 : Int) ≤ (k : Int) := by omega
            have i2 : (k : Int) < (l.length : Int) := by omega
            by_cases hz : 1000 < l[k].size
            · have HE : Hid (∃ s ∈ l, 1000 < s.size) := ⟨_, List.getElem_mem hlt, hz⟩
              have hz' : (1000 : Int) < (l[k].size : Int) := by omega
              go_wp2_with fail
              go_ret
              exact ⟨by rw [← HF.out 2 HE.out rfl]; rfl, rfl⟩
            · have hz' : ¬ (1000 : Int) < (l[k].size : Int) := by omega
              have HE : Hid (∀ j, (h : j < l.length) → j < k + 1 → ¬ 1000 < l[j].size) := fun j hj hjk => by
                by_cases e : j = k
                · subst e; exact hz
                · exact HH.out j hj (by omega)
              clear hz
              go_wp2_with fail
              exact ⟨⟨k + 1, by go_num, by omega, HE.out, trivial⟩, by simp [intOf]; omega⟩
          · have i2 : ¬ (k : Int) < (l.length : Int) := by omega
            have HE : Hid (∀ s ∈ l, ¬ 1000 < s.size) := fun s hs => by
              obtain ⟨j, hj, rfl⟩ := List.getElem_of_mem hs
              exact HH.out j hj (by omega)
            go_wp2_with fail
            go_ret
            exact ⟨by rw [← HG.out 0 HE.out rfl]; rfl, rfl⟩
  · have D1 : Hid (decide ((root.size : Int) = 8) = false) := decide_eq_false (by omega)
    rw [pfault_root h1]
    clear h1
    go_enter Try.func103, Try.ntmps103
    go_wp2_with fail
    refine (HI.out _ _).mono ?_
    rintro e w1 ⟨rfl, hw⟩
    obtain rfl := hw.symm
    rw [D1.out]
    go_wp2_with fail
    go_ret
    exact ⟨rfl, rfl⟩

/-- What is wrong with pairs. -/
def tfault (l : List (ByteArray × ByteArray)) (key : ByteArray) : Nat :=
  if 60 < l.length then 2 else if (∃ p ∈ l, 6 < p.1.size) ∨ 6 < key.size then 3 else if ∃ p ∈ l, 40 < p.2.size then 4 else 0

theorem tfault_many {l : List (ByteArray × ByteArray)} {key : ByteArray} (h : 60 < l.length) : tfault l key = 2 := by unfold tfault; rw [if_pos h]
theorem tfault_key {l : List (ByteArray × ByteArray)} {key : ByteArray} (h : ¬ 60 < l.length) (h2 : (∃ p ∈ l, 6 < p.1.size) ∨ 6 < key.size) : tfault l key = 3 := by unfold tfault; rw [if_neg h, if_pos h2]
theorem tfault_value {l : List (ByteArray × ByteArray)} {key : ByteArray} (h : ¬ 60 < l.length) (h2 : ∀ p ∈ l, ¬ 6 < p.1.size) (h3 : ¬ 6 < key.size) (h4 : ∃ p ∈ l, 40 < p.2.size) : tfault l key = 4 := by unfold tfault; rw [if_neg h, if_neg (fun x => x.elim (fun ⟨p, hp, hx⟩ => h2 p hp hx) h3), if_pos h4]
theorem tfault_ok {l : List (ByteArray × ByteArray)} {key : ByteArray} (h : ¬ 60 < l.length) (h2 : ∀ p ∈ l, ¬ 6 < p.1.size) (h3 : ¬ 6 < key.size) (h4 : ∀ p ∈ l, ¬ 40 < p.2.size) : tfault l key = 0 := by unfold tfault; rw [if_neg h, if_neg (fun x => x.elim (fun ⟨p, hp, hx⟩ => h2 p hp hx) h3), if_neg (fun ⟨p, hp, hx⟩ => h4 p hp hx)]

theorem tableFault_many (key : ByteArray) (a : Option Addr) (n cap : Nat) (w : World) (h : 60 < n) : Calls Try.prog 72 #[.slice a n cap, .string key] w fun e w' => e = .returned (.int .i64 2) ∧ w' = w := by
  have h' : (60 : Int) < (n : Int) := by omega
  clear h
  go_enter Try.func72, Try.ntmps72
  go_wp2_with fail
  go_ret
  exact ⟨rfl, rfl⟩

set_option maxHeartbeats 3200000 in
theorem tableFault_any (key : ByteArray) (a : Option Addr) (cap : Nat) (l : List (ByteArray × ByteArray)) (w : World) (hr : PRd w.heap.size w a l) : Calls Try.prog 72 #[.slice a l.length cap, .string key] w fun e w' => e = .returned (.int .i64 (tfault l key)) ∧ Below w.heap.size w w' := by
  by_cases h0 : 60 < l.length
  · rw [tfault_many h0]
    refine (tableFault_many key a _ cap w h0).mono ?_
    rintro e w' ⟨rfl, rfl⟩
    exact ⟨rfl, Below.refl _ _⟩
  · have HK := hid (fun s w => isLongKey_any s w)
    have HR := hid hr
    have h0' : ¬ (60 : Int) < (l.length : Int) := by omega
    have HF3 : Hid (∀ n, ((∃ p ∈ l, 6 < p.1.size) ∨ 6 < key.size) → n = 3 → n = tfault l key) := fun n h hn => by rw [hn, tfault_key h0 h]
    have HF4 : Hid (∀ n, (∀ p ∈ l, ¬ 6 < p.1.size) → ¬ 6 < key.size → (∃ p ∈ l, 40 < p.2.size) → n = 4 → n = tfault l key) := fun n h1 h2 h3 hn => by rw [hn, tfault_value h0 h1 h2 h3]
    have HF0 : Hid (∀ n, (∀ p ∈ l, ¬ 6 < p.1.size) → ¬ 6 < key.size → (∀ p ∈ l, ¬ 40 < p.2.size) → n = 0 → n = tfault l key) := fun n h1 h2 h3 hn => by rw [hn, tfault_ok h0 h1 h2 h3]
    generalize tfault l key = N at *
    clear hr h0
    go_enter Try.func72, Try.ntmps72
    go_wp2_with fail
    go_loopw [6, 14] (fun _ i wr => ∃ k : Nat, i = .int .i64 k ∧ k ≤ l.length ∧ Hid ((∀ j, (h : j < l.length) → j < k → ¬ 6 < l[j].1.size) ∧ Below w.heap.size w wr)) (fun _ i _ => l.length - (intOf i).toNat)
    case atStart => exact ⟨0, rfl, Nat.zero_le _, fun j _ h => by omega, Below.refl _ _⟩
    case round =>
      obtain ⟨k, rfl, hk, HH⟩ := hrel
      by_cases hlt : k < l.length
      · obtain ⟨b, off, rfl, hb, e0, e1⟩ := HR.out k hlt
        have f0 := (HH.out.2.cell (p := ⟨b, off + k * 2, none⟩) hb).trans e0
        have f1 := (HH.out.2.cell (p := ⟨b, off + k * 2 + 1, none⟩) hb).trans e1
        have i1 : (0 : Int) ≤ (k : Int) := by omega
        have i2 : (k : Int) < (l.length : Int) := by omega
        clear e0 e1
        go_wp2_with fail
        refine (HK.out _ _).mono ?_
        rintro e w1 ⟨rfl, hw⟩
        obtain rfl := hw.symm
        by_cases hz : 6 < l[k].1.size
        · have HE : Hid (∃ p ∈ l, 6 < p.1.size) := ⟨_, List.getElem_mem hlt, hz⟩
          rw [decide_eq_true (by omega : (6 : Int) < (l[k].1.size : Int))]
          go_wp2_with fail
          go_ret
          exact ⟨by rw [← HF3.out 3 (.inl HE.out) rfl]; rfl, HH.out.2.alloc HH.out.2.size _⟩
        · rw [decide_eq_false (by omega : ¬ (6 : Int) < (l[k].1.size : Int))]
          have HE : Hid (∀ j, (h : j < l.length) → j < k + 1 → ¬ 6 < l[j].1.size) := fun j hj hjk => by
            by_cases e : j = k
            · subst e; exact hz
            · exact HH.out.1 j hj (by omega)
          clear hz
          go_wp2_with fail
          exact ⟨⟨k + 1, by go_num, by omega, HE.out, HH.out.2.alloc HH.out.2.size _⟩, by simp [intOf]; omega⟩
      · have i2 : ¬ (k : Int) < (l.length : Int) := by omega
        have HE : Hid (∀ p ∈ l, ¬ 6 < p.1.size) := fun s hs => by
          obtain ⟨j, hj, rfl⟩ := List.getElem_of_mem hs
          exact HH.out.1 j hj (by omega)
        have HBr := hid HH.out.2
        clear HH hk
        go_wp2_with fail
        refine (HK.out _ _).mono ?_
        rintro e w1 ⟨rfl, hw⟩
        obtain rfl := hw.symm
        by_cases hz : 6 < key.size
        · rw [decide_eq_true (by omega : (6 : Int) < (key.size : Int))]
          have HZ := hid hz
          go_wp2_with fail
          go_ret
          exact ⟨by rw [← HF3.out 3 (.inr HZ.out) rfl]; rfl, HBr.out⟩
        · rw [decide_eq_false (by omega : ¬ (6 : Int) < (key.size : Int))]
          have HZ := hid hz
          clear hz
          go_wp2_with fail
          go_loopw [8, 26] (fun _ i wx => ∃ k : Nat, i = .int .i64 k ∧ k ≤ l.length ∧ Hid ((∀ j, (h : j < l.length) → j < k → ¬ 40 < l[j].2.size) ∧ Below w.heap.size w wx)) (fun _ i _ => l.length - (intOf i).toNat)
          case atStart => exact ⟨0, rfl, Nat.zero_le _, fun j _ h => by omega, HBr.out⟩
          case round =>
            obtain ⟨m, rfl, hm, HM⟩ := hrel
            by_cases hlt : m < l.length
            · obtain ⟨b, off, rfl, hb, e0, e1⟩ := HR.out m hlt
              have f0 := (HM.out.2.cell (p := ⟨b, off + m * 2, none⟩) hb).trans e0
              have f1 := (HM.out.2.cell (p := ⟨b, off + m * 2 + 1, none⟩) hb).trans e1
              have i1 : (0 : Int) ≤ (m : Int) := by omega
              have i3 : (m : Int) < (l.length : Int) := by omega
              clear e0 e1
              by_cases hv : 40 < l[m].2.size
              · have HV : Hid (∃ p ∈ l, 40 < p.2.size) := ⟨_, List.getElem_mem hlt, hv⟩
                have hv' : (40 : Int) < (l[m].2.size : Int) := by omega
                clear hv
                go_wp2_with fail
                go_ret
                exact ⟨by rw [← HF4.out 4 HE.out HZ.out HV.out rfl]; rfl, HM.out.2.alloc HM.out.2.size _⟩
              · have hv' : ¬ (40 : Int) < (l[m].2.size : Int) := by omega
                have HV : Hid (∀ j, (h : j < l.length) → j < m + 1 → ¬ 40 < l[j].2.size) := fun j hj hjk => by
                  by_cases e : j = m
                  · subst e; exact hv
                  · exact HM.out.1 j hj (by omega)
                clear hv
                go_wp2_with fail
                exact ⟨⟨m + 1, by go_num, by omega, HV.out, HM.out.2.alloc HM.out.2.size _⟩, by simp [intOf]; omega⟩
            · have i3 : ¬ (m : Int) < (l.length : Int) := by omega
              have HV : Hid (∀ p ∈ l, ¬ 40 < p.2.size) := fun s hs => by
                obtain ⟨j, hj, rfl⟩ := List.getElem_of_mem hs
                exact HM.out.1 j hj (by omega)
              go_wp2_with fail
              go_ret
              exact ⟨by rw [← HF0.out 0 HE.out HZ.out HV.out rfl]; rfl, HM.out.2⟩
end Go.Proofs.Ytbmohenjphmlgaa
