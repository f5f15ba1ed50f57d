/- Part 15 of a proof: what the last text needs. -/
import Derived.Test.YtbmohenjphmlgaaPart12
import Derived.Test.YtbmohenjphmlgaaPart14
/- The walks of proofFault and tableFault (of the program). -/
namespace Go.Proofs.Ytbmohenjphmlgaa
open Go.RowKit
set_option maxRecDepth 100000

/-- Texts in a row, in blocks below B. -/
def SRd (B : Nat) (w : World) (a : Option Addr) (l : List ByteArray) : Prop :=
  ∀ i, (h : i < l.length) → ∃ b off, a = some ⟨b, off, none⟩ ∧ b < B ∧ w.cell? ⟨b, off + i, none⟩ = some (.string l[i])

theorem SRd.later {B : Nat} {w w' : World} {a : Option Addr} {l : List ByteArray} (h : SRd B w a l) (hb : Below B w w') : SRd B w' a l := by
  intro i hi
  obtain ⟨b, off, rfl, hlt, c0⟩ := h i hi
  exact ⟨b, off, rfl, hlt, (hb.cell (p := ⟨b, off + i, none⟩) hlt).trans c0⟩

theorem SRd.wider {B B' : Nat} {w : World} {a : Option Addr} {l : List ByteArray} (h : SRd B w a l) (hB : B ≤ B') : SRd B' w a l := by
  intro i hi
  obtain ⟨b, off, e, hlt, c0⟩ := h i hi
  exact ⟨b, off, e, Nat.lt_of_lt_of_le hlt hB, c0⟩

theorem srd_nil (B : Nat) (w : World) (a : Option Addr) : SRd B w a [] := fun i hi => by simp at hi

/-- What is wrong with a proof before it is looked into. -/
def pfault (root key : ByteArray) (l : List ByteArray) : Nat :=
  if root.size ≠ 8 then 5 else if 6 < key.size then 3 else if 20 < l.length then 2 else if ∃ s ∈ l, 1000 < s.size then 2 else 0

theorem pfault_root {root key : ByteArray} {l : List ByteArray} (h : root.size ≠ 8) : pfault root key l = 5 := by unfold pfault; rw [if_pos h]
theorem pfault_key {root key : ByteArray} {l : List ByteArray} (h : root.size = 8) (h2 : 6 < key.size) : pfault root key l = 3 := by unfold pfault; rw [if_neg (by omega), if_pos h2]
theorem pfault_many {root key : ByteArray} {l : List ByteArray} (h : root.size = 8) (h2 : ¬ 6 < key.size) (h3 : 20 < l.length) : pfault root key l = 2 := by unfold pfault; rw [if_neg (by omega), if_neg h2, if_pos h3]
theorem pfault_big {root key : ByteArray} {l : List ByteArray} (h : root.size = 8) (h2 : ¬ 6 < key.size) (h3 : ¬ 20 < l.length) (h4 : ∃ s ∈ l, 1000 < s.size) : pfault root key l = 2 := by unfold pfault; rw [if_neg (by omega), if_neg h2, if_neg h3, if_pos h4]
theorem pfault_ok {root key : ByteArray} {l : List ByteArray} (h : root.size = 8) (h2 : ¬ 6 < key.size) (h3 : ¬ 20 < l.length) (h4 : ∀ s ∈ l, ¬ 1000 < s.size) : pfault root key l = 0 := by unfold pfault; rw [if_neg (by omega), if_neg h2, if_neg h3, if_neg (fun ⟨s, hs, h⟩ => h4 s hs h)]

set_option maxHeartbeats 1600000 in
theorem proofFault_any (root key : ByteArray) (a : Option Addr) (cap : Nat) (l : List ByteArray) (w : World) (hr : SRd w.heap.size w a l) : Calls Try.prog 103 #[.string root, .string key, .slice a l.length cap] w fun e w' => e = .returned (.int .i64 (pfault root key l)) ∧ w' = w := by
  have HI := hid (fun s w => isRoot_any s w)
  have HK := hid (fun s w => isLongKey_any s w)
  have HR := hid hr
  clear hr
  by_cases h1 : root.size = 8
  · have D1 : Hid (decide ((root.size : Int) = 8) = true) := decide_eq_true (by omega)
    by_cases h2 : 6 < key.size
    · have D2 : Hid (decide ((6 : Int) < key.size) = true) := decide_eq_true (by omega)
      rw [pfault_key h1 h2]
      clear h1 h2
      go_enter Try.func103, Try.ntmps103
      go_wp2_with fail
      refine (HI.out _ _).mono ?_
      rintro e w1 ⟨rfl, hw⟩
      obtain rfl := hw.symm
      rw [D1.out]
      go_wp2_with fail
      refine (HK.out _ _).mono ?_
      rintro e w1 ⟨rfl, hw⟩
      obtain rfl := hw.symm
      rw [D2.out]
      go_wp2_with fail
      go_ret
      exact ⟨rfl, rfl⟩
    · have D2 : Hid (decide ((6 : Int) < key.size) = false) := decide_eq_false (by omega)
      by_cases h3 : 20 < l.length
      · rw [pfault_many h1 h2 h3]
        have h3' : (20 : Int) < (l.length : Int) := by omega
        clear h1 h2 h3
        go_enter Try.func103, Try.ntmps103
        go_wp2_with fail
        refine (HI.out _ _).mono ?_
        rintro e w1 ⟨rfl, hw⟩
        obtain rfl := hw.symm
        rw [D1.out]
        go_wp2_with fail
        refine (HK.out _ _).mono ?_
        rintro e w1 ⟨rfl, hw⟩
        obtain rfl := hw.symm
        rw [D2.out]
        go_wp2_with fail
        go_ret
        exact ⟨rfl, rfl⟩
      · have h3' : ¬ (20 : Int) < (l.length : Int) := by omega
        have HF : Hid (∀ n, (∃ s ∈ l, 1000 < s.size) → n = 2 → n = pfault root key l) := fun n h hn => by rw [hn, pfault_big h1 h2 h3 h]
        have HG : Hid (∀ n, (∀ s ∈ l, ¬ 1000 < s.size) → n = 0 → n = pfault root key l) := fun n h hn => by rw [hn, pfault_ok h1 h2 h3 h]
        generalize pfault root key l = N at *
        clear h1 h2
        go_enter Try.func103, Try.ntmps103
        go_wp2_with fail
        refine (HI.out _ _).mono ?_
        rintro e w1 ⟨rfl, hw⟩
        obtain rfl := hw.symm
        rw [D1.out]
        go_wp2_with fail
        refine (HK.out _ _).mono ?_
        rintro e w1 ⟨rfl, hw⟩
        obtain rfl := hw.symm
        rw [D2.out]
        go_wp2_with fail
        go_loopw [8, 22] (fun _ i wr => ∃ k : Nat, i = .int .i64 k ∧ k ≤ l.length ∧ Hid (∀ j, (h : j < l.length) → j < k → ¬ 1000 < l[j].size) ∧ wr = w) (fun _ i _ => l.length - (intOf i).toNat)
        case atStart => exact ⟨0, rfl, Nat.zero_le _, fun j _ h => by omega, rfl⟩
        case round =>
          obtain ⟨k, rfl, hk, HH, rfl⟩ := hrel
          by_cases hlt : k < l.length
          · obtain ⟨b, off, rfl, hb, e0⟩ := HR.out k hlt
            have i1 : (0 : Int) ≤ (k : Int) := by omega
            have i2 : (k : Int) < (l.length : Int) := by omega
            by_cases hz : 1000 < l[k].size
            · have HE : Hid (∃ s ∈ l, 1000 < s.size) := ⟨_, List.getElem_mem hlt, hz⟩
              have hz' : (1000 : Int) < (l[k].size : Int) := by omega
              go_wp2_with fail
              go_ret
              exact ⟨by rw [← HF.out 2 HE.out rfl]; rfl, rfl⟩
            · have hz' : ¬ (1000 : Int) < (l[k].size : Int) := by omega
              have HE : Hid (∀ j, (h : j < l.length) → j < k + 1 → ¬ 1000 < l[j].size) := fun j hj hjk => by
                by_cases e : j = k
                · subst e; exact hz
                · exact HH.out j hj (by omega)
              clear hz
              go_wp2_with fail
              exact ⟨⟨k + 1, by go_num, by omega, HE.out, trivial⟩, by simp [intOf]; omega⟩
          · have i2 : ¬ (k : Int) < (l.length : Int) := by omega
            have HE : Hid (∀ s ∈ l, ¬ 1000 < s.size) := fun s hs => by
              obtain ⟨j, hj, rfl⟩ := List.getElem_of_mem hs
              exact HH.out j hj (by omega)
            go_wp2_with fail
            go_ret
            exact ⟨by rw [← HG.out 0 HE.out rfl]; rfl, rfl⟩
  · have D1 : Hid (decide ((root.size : Int) = 8) = false) := decide_eq_false (by omega)
    rw [pfault_root h1]
    clear h1
    go_enter Try.func103, Try.ntmps103
    go_wp2_with fail
    refine (HI.out _ _).mono ?_
    rintro e w1 ⟨rfl, hw⟩
    obtain rfl := hw.symm
    rw [D1.out]
    go_wp2_with fail
    go_ret
    exact ⟨rfl, rfl⟩

/-- What is wrong with pairs. -/
def tfault (l : List (ByteArray × ByteArray)) (key : ByteArray) : Nat :=
  if 60 < l.length then 2 else if (∃ p ∈ l, 6 < p.1.size) ∨ 6 < key.size then 3 else if ∃ p ∈ l, 40 < p.2.size then 4 else 0

theorem tfault_many {l : List (ByteArray × ByteArray)} {key : ByteArray} (h : 60 < l.length) : tfault l key = 2 := by unfold tfault; rw [if_pos h]
theorem tfault_key {l : List (ByteArray × ByteArray)} {key : ByteArray} (h : ¬ 60 < l.length) (h2 : (∃ p ∈ l, 6 < p.1.size) ∨ 6 < key.size) : tfault l key = 3 := by unfold tfault; rw [if_neg h, if_pos h2]
theorem tfault_value {l : List (ByteArray × ByteArray)} {key : ByteArray} (h : ¬ 60 < l.length) (h2 : ∀ p ∈ l, ¬ 6 < p.1.size) (h3 : ¬ 6 < key.size) (h4 : ∃ p ∈ l, 40 < p.2.size) : tfault l key = 4 := by unfold tfault; rw [if_neg h, if_neg (fun x => x.elim (fun ⟨p, hp, hx⟩ => h2 p hp hx) h3), if_pos h4]
theorem tfault_ok {l : List (ByteArray × ByteArray)} {key : ByteArray} (h : ¬ 60 < l.length) (h2 : ∀ p ∈ l, ¬ 6 < p.1.size) (h3 : ¬ 6 < key.size) (h4 : ∀ p ∈ l, ¬ 40 < p.2.size) : tfault l key = 0 := by unfold tfault; rw [if_neg h, if_neg (fun x => x.elim (fun ⟨p, hp, hx⟩ => h2 p hp hx) h3), if_neg (fun ⟨p, hp, hx⟩ => h4 p hp hx)]

theorem tableFault_many (key : ByteArray) (a : Option Addr) (n cap : Nat) (w : World) (h : 60 < n) : Calls Try.prog 72 #[.slice a n cap, .string key] w fun e w' => e = .returned (.int .i64 2) ∧ w' = w := by
  have h' : (60 : Int) < (n : Int) := by omega
  clear h
  go_enter Try.func72, Try.ntmps72
  go_wp2_with fail
  go_ret
  exact ⟨rfl, rfl⟩

set_option maxHeartbeats 3200000 in
theorem tableFault_any (key : ByteArray) (a : Option Addr) (cap : Nat) (l : List (ByteArray × ByteArray)) (w : World) (hr : PRd w.heap.size w a l) : Calls Try.prog 72 #[.slice a l.length cap, .string key] w fun e w' => e = .returned (.int .i64 (tfault l key)) ∧ Below w.heap.size w w' := by
  by_cases h0 : 60 < l.length
  · rw [tfault_many h0]
    refine (tableFault_many key a _ cap w h0).mono ?_
    rintro e w' ⟨rfl, rfl⟩
    exact ⟨rfl, Below.refl _ _⟩
  · have HK := hid (fun s w => isLongKey_any s w)
    have HR := hid hr
    have h0' : ¬ (60 : Int) < (l.length : Int) := by omega
    have HF3 : Hid (∀ n, ((∃ p ∈ l, 6 < p.1.size) ∨ 6 < key.size) → n = 3 → n = tfault l key) := fun n h hn => by rw [hn, tfault_key h0 h]
    have HF4 : Hid (∀ n, (∀ p ∈ l, ¬ 6 < p.1.size) → ¬ 6 < key.size → (∃ p ∈ l, 40 < p.2.size) → n = 4 → n = tfault l key) := fun n h1 h2 h3 hn => by rw [hn, tfault_value h0 h1 h2 h3]
    have HF0 : Hid (∀ n, (∀ p ∈ l, ¬ 6 < p.1.size) → ¬ 6 < key.size → (∀ p ∈ l, ¬ 40 < p.2.size) → n = 0 → n = tfault l key) := fun n h1 h2 h3 hn => by rw [hn, tfault_ok h0 h1 h2 h3]
    generalize tfault l key = N at *
    clear hr h0
    go_enter Try.func72, Try.ntmps72
    go_wp2_with fail
    go_loopw [6, 14] (fun _ i wr => ∃ k : Nat, i = .int .i64 k ∧ k ≤ l.length ∧ Hid ((∀ j, (h : j < l.length) → j < k → ¬ 6 < l[j].1.size) ∧ Below w.heap.size w wr)) (fun _ i _ => l.length - (intOf i).toNat)
    case atStart => exact ⟨0, rfl, Nat.zero_le _, fun j _ h => by omega, Below.refl _ _⟩
    case round =>
      obtain ⟨k, rfl, hk, HH⟩ := hrel
      by_cases hlt : k < l.length
      · obtain ⟨b, off, rfl, hb, e0, e1⟩ := HR.out k hlt
        have f0 := (HH.out.2.cell (p := ⟨b, off + k * 2, none⟩) hb).trans e0
        have f1 := (HH.out.2.cell (p := ⟨b, off + k * 2 + 1, none⟩) hb).trans e1
        have i1 : (0 : Int) ≤ (k : Int) := by omega
        have i2 : (k : Int) < (l.length : Int) := by omega
        clear e0 e1
        go_wp2_with fail
        refine (HK.out _ _).mono ?_
        rintro e w1 ⟨rfl, hw⟩
        obtain rfl := hw.symm
        by_cases hz : 6 < l[k].1.size
        · have HE : Hid (∃ p ∈ l, 6 < p.1.size) := ⟨_, List.getElem_mem hlt, hz⟩
          rw [decide_eq_true (by omega : (6 : Int) < (l[k].1.size : Int))]
          go_wp2_with fail
          go_ret
          exact ⟨by rw [← HF3.out 3 (.inl HE.out) rfl]; rfl, HH.out.2.alloc HH.out.2.size _⟩
        · rw [decide_eq_false (by omega : ¬ (6 : Int) < (l[k].1.size : Int))]
          have HE : Hid (∀ j, (h : j < l.length) → j < k + 1 → ¬ 6 < l[j].1.size) := fun j hj hjk => by
            by_cases e : j = k
            · subst e; exact hz
            · exact HH.out.1 j hj (by omega)
          clear hz
          go_wp2_with fail
          exact ⟨⟨k + 1, by go_num, by omega, HE.out, HH.out.2.alloc HH.out.2.size _⟩, by simp [intOf]; omega⟩
      · have i2 : ¬ (k : Int) < (l.length : Int) := by omega
        have HE : Hid (∀ p ∈ l, ¬ 6 < p.1.size) := fun s hs => by
          obtain ⟨j, hj, rfl⟩ := List.getElem_of_mem hs
          exact HH.out.1 j hj (by omega)
        have HBr := hid HH.out.2
        clear HH hk
        go_wp2_with fail
        refine (HK.out _ _).mono ?_
        rintro e w1 ⟨rfl, hw⟩
        obtain rfl := hw.symm
        by_cases hz : 6 < key.size
        · rw [decide_eq_true (by omega : (6 : Int) < (key.size : Int))]
          have HZ := hid hz
          go_wp2_with fail
          go_ret
          exact ⟨by rw [← HF3.out 3 (.inr HZ.out) rfl]; rfl, HBr.out⟩
        · rw [decide_eq_false (by omega : ¬ (6 : Int) < (key.size : Int))]
          have HZ := hid hz
          clear hz
          go_wp2_with fail
          go_loopw [8, 26] (fun _ i wx => ∃ k : Nat, i = .int .i64 k ∧ k ≤ l.length ∧ Hid ((∀ j, (h : j < l.length) → j < k → ¬ 40 < l[j].2.size) ∧ Below w.heap.size w wx)) (fun _ i _ => l.length - (intOf i).toNat)
          case atStart => exact ⟨0, rfl, Nat.zero_le _, fun j _ h => by omega, HBr.out⟩
          case round =>
            obtain ⟨m, rfl, hm, HM⟩ := hrel
            by_cases hlt : m < l.length
            · obtain ⟨b, off, rfl, hb, e0, e1⟩ := HR.out m hlt
              have f0 := (HM.out.2.cell (p := ⟨b, off + m * 2, none⟩) hb).trans e0
              have f1 := (HM.out.2.cell (p := ⟨b, off + m * 2 + 1, none⟩) hb).trans e1
              have i1 : (0 : Int) ≤ (m : Int) := by omega
              have i3 : (m : Int) < (l.length : Int) := by omega
              clear e0 e1
              by_cases hv : 40 < l[m].2.size
              · have HV : Hid (∃ p ∈ l, 40 < p.2.size) := ⟨_, List.getElem_mem hlt, hv⟩
                have hv' : (40 : Int) < (l[m].2.size : Int) := by omega
                clear hv
                go_wp2_with fail
                go_ret
                exact ⟨by rw [← HF4.out 4 HE.out HZ.out HV.out rfl]; rfl, HM.out.2.alloc HM.out.2.size _⟩
              · have hv' : ¬ (40 : Int) < (l[m].2.size : Int) := by omega
                have HV : Hid (∀ j, (h : j < l.length) → j < m + 1 → ¬ 40 < l[j].2.size) := fun j hj hjk => by
                  by_cases e : j = m
                  · subst e; exact hv
                  · exact HM.out.1 j hj (by omega)
                clear hv
                go_wp2_with fail
                exact ⟨⟨m + 1, by go_num, by omega, HV.out, HM.out.2.alloc HM.out.2.size _⟩, by simp [intOf]; omega⟩
            · have i3 : ¬ (m : Int) < (l.length : Int) := by omega
              have HV : Hid (∀ p ∈ l, ¬ 40 < p.2.size) := fun s hs => by
                obtain ⟨j, hj, rfl⟩ := List.getElem_of_mem hs
                exact HM.out.1 j hj (by omega)
              go_wp2_with fail
              go_ret
              exact ⟨by rw [← HF0.out 0 HE.out HZ.out HV.out rfl]; rfl, HM.out.2⟩
end Go.Proofs.Ytbmohenjphmlgaa

/- Rows of texts of a call's own. -/
namespace Go.Proofs.Ytbmohenjphmlgaa
open Go.RowKit
set_option maxRecDepth 100000

theorem infoText : (Try.prog.info? 9).map (fun i => (i.zero, i.size, i.bytes)) = some (some (.string ⟨#[]⟩), 1, 16) := by kernel_rfl

def tcells (l : List ByteArray) : List Value := l.map .string
theorem tcells_len (l : List ByteArray) : (tcells l).length = l.length := by simp [tcells]
theorem tcells_at (l : List ByteArray) (i : Nat) (hi : i < l.length) : (tcells l)[i]? = some (.string l[i]) := by simp [tcells, hi]
theorem tcells_one (l : List ByteArray) : ∀ u ∈ tcells l, u.oneCell' = true := by
  intro u hu
  obtain ⟨s, _, rfl⟩ := List.mem_map.1 hu
  rfl

def TOwn (w : World) (base : Nat) (v : Value) (l : List ByteArray) : Prop := w.ownsRow base 9 1 v l.length (tcells l)

theorem town_nil (w : World) (base : Nat) : TOwn w base (.slice none 0 0) [] := World.ownsRow_nil _ _ _ _
theorem town_shape {w : World} {base : Nat} {v : Value} {l : List ByteArray} (h : TOwn w base v l) : ∃ a cap, v = .slice a l.length cap ∧ l.length ≤ cap := by
  rcases h.2 with ⟨rfl, h0⟩ | ⟨g, cap, cur, rfl, _, _, hn, _⟩
  · exact ⟨none, 0, by rw [h0], by omega⟩
  · exact ⟨_, cap, rfl, hn⟩
theorem town_frame {w w' : World} {b : Nat} {v : Value} {l : List ByteArray} (h : TOwn w b v l) (hg : ∀ g, v.ownBlock = some g → w'.heap[g]? = w.heap[g]?) : TOwn w' b v l := owns_frame h hg
theorem town_lt {w : World} {b : Nat} {v : Value} {l : List ByteArray} (h : TOwn w b v l) : ∀ g, v.ownBlock = some g → b ≤ g ∧ g < w.heap.size := World.ownsRow.lt h
theorem town_later {w w' : World} {b : Nat} {v : Value} {l : List ByteArray} (h : TOwn w b v l) (hb : Below w.heap.size w w') : TOwn w' b v l := town_frame h fun g hg => hb.block g (town_lt h g hg).2

theorem town_rd {w : World} {base : Nat} {a : Option Addr} {n cap : Nat} {l : List ByteArray} (h : TOwn w base (.slice a n cap) l) : SRd w.heap.size w a l := by
  intro i hi
  rcases h.2 with ⟨_, h0⟩ | ⟨g, cap', cur, hv, hbg, hg, _⟩
  · omega
  · have hlt := (Array.getElem?_eq_some_iff.1 hg).1
    simp only [Value.slice.injEq] at hv
    obtain ⟨rfl, _, _⟩ := hv
    have hc := World.ownsRow.cells (g := g) h rfl
    have a0 : ((⟨g, 0, none⟩ : Addr).add i) = ⟨g, 0 + i, none⟩ := by unfold Addr.add; split <;> simp_all
    exact ⟨g, 0, rfl, hlt, a0 ▸ hc _ _ (tcells_at l i hi)⟩

theorem tcells_snoc (l : List ByteArray) (p : ByteArray) : tcells (l ++ [p]) = tcells l ++ [.string p] := by simp [tcells]

theorem cells_lone (w : World) (a : Value) (e : TypeId) : ∀ j u, [a][j]? = some u → (w.alloc (.cells #[a] e)).cell? ((⟨w.heap.size, 0, none⟩ : Addr).add j) = some u := by
  intro j u hu
  match j with
  | 0 =>
    have e0 : u = a := by simpa using hu.symm
    subst e0
    have hh : (w.alloc (.cells #[u] e)).heap[w.heap.size]? = some (.cells #[u] e (0, 0)) := heap_alloc_new w _
    exact (cell_of_row _ _ 0 _ _ _ hh).trans rfl
  | j + 1 => simp at hu

/-- A text that was just laid is appended to a row of the call's own: for a walk. -/
theorem wpList_push_text {ops : Array Oper} {rest : List Oper} {o : Oper} {act : Act} {Q' : Exit → Act → World → Prop} (hgd : o.guard = none) (s x : Operand)
    (hop : o.op = .call { callee := .builtin .append, args := #[s, x], argTypes := #[34, 34] }) {W w0 wr : World} {B : Nat} {v1 : Value} {l1 : List ByteArray} (p : ByteArray) (L : Nat) (hL : wr.heap.size = L)
    (hs : act.eval s = v1) (hx : act.eval x = .slice (some ⟨L, 0, none⟩) 1 1) (ho : TOwn w0 B v1 l1) (hw : Below w0.heap.size w0 wr) (hb : Below B W w0) (hB : B ≤ W.heap.size) (hlen : l1.length ≤ 1000000)
    (h : ∀ v' w', TOwn w' B v' (l1 ++ [p]) → Below B W w' → wpList Try.prog ops Q' rest (act.put o.dst v') w') : wpList Try.prog ops Q' (o :: rest) act (wr.alloc (.cells #[.string p] 9)) := by
  subst hL
  obtain ⟨i0, hi, hz0, hz1, hz2⟩ := info_parts infoText
  have hb1 : Below B W wr := hb.trans (hw.mono (Nat.le_trans hB hb.size))
  have hb2 : Below B W (wr.alloc (.cells #[.string p] 9)) := hb1.alloc (Nat.le_trans hB hb1.size) _
  have hBw : B ≤ (wr.alloc (.cells #[.string p] 9)).heap.size := Nat.le_trans hB hb2.size
  have ho2 : TOwn (wr.alloc (.cells #[.string p] 9)) B v1 l1 := town_frame ho (fun g hg => by
    rw [Below.heap_alloc _ _ _ (Nat.lt_of_lt_of_le (town_lt ho g hg).2 hw.size)]
    exact hw.block g (town_lt ho g hg).2)
  refine wpList_append_mine _ hgd s x 34 hop B 9 i0 _ 1 16 Try.underlying34 hi hz0 hz1 hz2 rfl (by decide) v1 l1.length (tcells l1) hs ho2 ⟨wr.heap.size, 0, none⟩ 1 1 [.string p] hx rfl (cells_lone _ _ _) (by simp [Value.oneCell']) (by unfold maxLen; omega) (by omega) hBw ?_
  intro v' w' ho' hg _
  refine h v' w' ?_ (hb2.grown hg hBw (fun g hgg => (town_lt ho g hgg).1))
  unfold TOwn
  rw [List.length_append, tcells_snoc]
  exact ho'

/-- A text that was just laid is appended to a row of the call's own: at a step of a region that draws. -/
theorem step_push_text {ops : Array Oper} {o : Oper} {act : Act} {K : Act → World → Prop} {Q' : Exit → Act → World → Prop} {E : Prop} (hgd : o.guard = none) (s x : Operand)
    (hop : o.op = .call { callee := .builtin .append, args := #[s, x], argTypes := #[34, 34] }) {wr : World} {B : Nat} {v1 : Value} {l1 : List ByteArray} (p : ByteArray) (L : Nat) (hL : wr.heap.size = L)
    (hs : act.eval s = v1) (hx : act.eval x = .slice (some ⟨L, 0, none⟩) 1 1) (ho : TOwn wr B v1 l1) (hB : B ≤ wr.heap.size) (hlen : l1.length ≤ 1000000)
    (h : ∀ v' w', TOwn w' B v' (l1 ++ [p]) → Below B wr w' → (∀ k, k < wr.heap.size → v1.ownBlock ≠ some k → w'.heap[k]? = wr.heap[k]?) → K (act.put o.dst v') w') : if Region.wanted o (yielded ops act.tmps) = true then Oper.wp Try.prog o act (wr.alloc (.cells #[.string p] 9)) K Q' else E := by
  subst hL
  have hw : Region.wanted o (yielded ops act.tmps) = true := by simp [Region.wanted, hgd]
  rw [if_pos hw]
  obtain ⟨i0, hi, hz0, hz1, hz2⟩ := info_parts infoText
  have hb2 : Below B wr (wr.alloc (.cells #[.string p] 9)) := (Below.refl _ _).alloc hB _
  have hBw : B ≤ (wr.alloc (.cells #[.string p] 9)).heap.size := Nat.le_trans hB hb2.size
  have ho2 : TOwn (wr.alloc (.cells #[.string p] 9)) B v1 l1 := town_frame ho (fun g hg => Below.heap_alloc _ _ _ (town_lt ho g hg).2)
  obtain ⟨v', w', hr, h2, h3, _⟩ := run_append_mine (P := Try.prog) _ B 34 o.type 9 i0 _ 1 16 Try.underlying34 hi hz0 hz1 hz2 rfl (by decide) v1 l1.length (tcells l1) ho2 ⟨wr.heap.size, 0, none⟩ 1 1 [.string p] rfl (cells_lone _ _ _) (by simp [Value.oneCell']) (by unfold maxLen; omega) (by omega) hBw
  unfold Oper.wp execOp
  simp only [hop, resolve, invoke, builtin, Sem.run_bind, Sem.run_pure, Result.andThen_ok, List.map_toArray, List.map_cons, List.map_nil, hs, hx, hr]
  refine h v' w' ?_ (hb2.grown h3 hBw (fun g hgg => (town_lt ho g hgg).1)) (fun k hk hne => (h3.block k (by rw [alloc_size]; omega) (fun e => hne e.symm)).trans (Below.heap_alloc _ _ _ hk))
  unfold TOwn
  rw [List.length_append, tcells_snoc]
  exact h2

end Go.Proofs.Ytbmohenjphmlgaa
