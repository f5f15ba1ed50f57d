/- The walk of the search for a height among heads (of the program). -/
import Derived.Test.YtbmohenjphmlgabGreatKp1
namespace Go.Proofs.YtbmohenjphmlgabGreat
open Go.RowKit
set_option maxRecDepth 100000

/-- Heads in a row: height and root of each, in blocks below B. -/
def HRd (B : Nat) (w : World) (a : Option Addr) (l : List (Int × ByteArray)) : Prop :=
  ∀ i, (h : i < l.length) → ∃ b off, a = some ⟨b, off, none⟩ ∧ b < B ∧ w.cell? ⟨b, off + i * 2, none⟩ = some (.int .i64 l[i].1) ∧ w.cell? ⟨b, off + i * 2 + 1, none⟩ = some (.string l[i].2)

theorem HRd.later {B : Nat} {w w' : World} {a : Option Addr} {l : List (Int × ByteArray)} (h : HRd B w a l) (hb : Below B w w') : HRd B w' a l := by
  intro i hi
  obtain ⟨b, off, rfl, hlt, c0, c1⟩ := h i hi
  exact ⟨b, off, rfl, hlt, (hb.cell (p := ⟨b, off + i * 2, none⟩) hlt).trans c0, (hb.cell (p := ⟨b, off + i * 2 + 1, none⟩) hlt).trans c1⟩

/-- Heights rise. -/
def Rises (l : List (Int × ByteArray)) : Prop := l.Pairwise fun a b => a.1 < b.1

theorem Rises.at {l : List (Int × ByteArray)} (h : Rises l) {i j : Nat} (hij : i < j) (hj : j < l.length) : l[i].1 < l[j].1 := List.pairwise_iff_getElem.1 h i j (by omega) hj hij

theorem mid_nat (i j : Nat) : ((i : Int) + j) / 2 = (((i + j) / 2 : Nat) : Int) := by omega

/-- Where the search ends. -/
theorem search_end {l : List (Int × ByteArray)} {x : Int} {i j : Nat} {w wr : World} (hij : i ≤ j) (hlt : ¬ i < j) (hj : j ≤ l.length) (h1 : ∀ k, (h : k < l.length) → k < i → l[k].1 < x) (h2 : ∀ k, (h : k < l.length) → j ≤ k → x ≤ l[k].1) (h3 : Below w.heap.size w wr) {b : Bool} (hb : b = decide (∃ h : i < l.length, l[i].1 = x)) :
    (∃ p : Nat, Ending.returned (.tuple #[.int .i64 i, .bool b]) = .returned (.tuple #[.int .i64 p, .bool (decide (∃ h : p < l.length, l[p].1 = x))]) ∧ p ≤ l.length ∧ (∀ i, (h : i < l.length) → i < p → l[i].1 < x) ∧ (∀ i, (h : i < l.length) → p ≤ i → x ≤ l[i].1)) ∧ Below w.heap.size w wr :=
  ⟨⟨i, by rw [hb], by omega, h1, fun k hk hik => h2 k hk (by omega)⟩, h3⟩

theorem search_up {l : List (Int × ByteArray)} {x : Int} {m : Nat} (hs : Rises l) (hm : m < l.length) (h : l[m].1 < x) : ∀ k, (hk : k < l.length) → k < m + 1 → l[k].1 < x := by
  intro k hk hlt
  by_cases e : k = m
  · subst e; exact h
  · have := hs.at (i := k) (j := m) (by omega) hm
    omega

theorem search_down {l : List (Int × ByteArray)} {x : Int} {m : Nat} (hs : Rises l) (hm : m < l.length) (h : x ≤ l[m].1) : ∀ k, (hk : k < l.length) → m ≤ k → x ≤ l[k].1 := by
  intro k hk hle
  by_cases e : k = m
  · subst e; exact h
  · have := hs.at (i := m) (j := k) (by omega) hk
    omega

set_option maxHeartbeats 1600000 in
theorem search_any (a : Option Addr) (cap : Nat) (l : List (Int × ByteArray)) (x : Int) (w : World) (hr : HRd w.heap.size w a l) (hl : l.length ≤ 1000) (hs : Rises l) :
    Calls Tryz.prog 68 #[.slice a l.length cap, .int .i64 x, .func (.func 69) #[] #[]] w
      fun e w' => (∃ p : Nat, e = .returned (.tuple #[.int .i64 p, .bool (decide (∃ h : p < l.length, l[p].1 = x))]) ∧ p ≤ l.length ∧ (∀ i, (h : i < l.length) → i < p → l[i].1 < x) ∧ (∀ i, (h : i < l.length) → p ≤ i → x ≤ l[i].1)) ∧ Below w.heap.size w w' := by
  have HR := hid hr
  have HC := hid (fun h r x w => place1_any h r x w)
  have HS := hid hs
  clear hr hs
  go_enter Tryz.func68, Tryz.ntmps68
  go_wp2_with fail
  go_loopw [9, 10] (fun u v wr => ∃ i j : Nat, u = .int .i64 i ∧ v = .int .i64 j ∧ i ≤ j ∧ j ≤ l.length ∧ Hid ((∀ k, (h : k < l.length) → k < i → l[k].1 < x) ∧ (∀ k, (h : k < l.length) → j ≤ k → x ≤ l[k].1) ∧ Below w.heap.size w wr)) (fun u v _ => (intOf v).toNat - (intOf u).toNat)
  case atStart => exact ⟨0, l.length, rfl, rfl, Nat.zero_le _, Nat.le_refl _, fun k _ h => by omega, fun k h1 h2 => by omega, Below.refl _ _⟩
  case round =>
    obtain ⟨i, j, rfl, rfl, hij, hj, HH⟩ := hrel
    by_cases hlt : i < j
    · have i1 : (i : Int) < (j : Int) := by omega
      have hm : (i + j) / 2 < l.length := by omega
      obtain ⟨b, off, rfl, hb, e0, e1⟩ := HR.out ((i + j) / 2) hm
      obtain ⟨hv, hhv⟩ : ∃ v, v = l[(i + j) / 2].1 := ⟨_, rfl⟩
      obtain ⟨rv, hrv⟩ : ∃ v, v = l[(i + j) / 2].2 := ⟨_, rfl⟩
      have HV : Hid (hv = l[(i + j) / 2].1) := hhv
      have f0 : wr.cell? ⟨b, off + (i + j) / 2 * 2, none⟩ = some (.int .i64 hv) := by
        rw [hhv]
        exact (HH.out.2.2.cell (p := ⟨b, off + (i + j) / 2 * 2, none⟩) hb).trans e0
      have f1 : wr.cell? ⟨b, off + (i + j) / 2 * 2 + 1, none⟩ = some (.string rv) := by
        rw [hrv]
        exact (HH.out.2.2.cell (p := ⟨b, off + (i + j) / 2 * 2 + 1, none⟩) hb).trans e1
      clear hhv hrv
      have j1 : (0 : Int) ≤ ((i : Int) + j) / 2 := by omega
      have j2 : ((i : Int) + j) / 2 < (l.length : Int) := by omega
      clear e0 e1
      go_wp2_with fail
      refine (HC.out _ _ _ _).mono ?_
      rintro e w1 ⟨rfl, b1⟩
      have HB1 : Hid (Below w.heap.size w w1) := HH.out.2.2.trans (b1.mono HH.out.2.2.size)
      clear b1
      unfold cmpI
      by_cases hc : hv < x
      · rw [if_pos hc]
        go_wp2_with fail
        refine ⟨⟨(i + j) / 2 + 1, j, by rw [mid_nat]; rfl, rfl, by omega, hj, search_up HS.out hm (by rw [← HV.out]; exact hc), HH.out.2.1, HB1.out⟩, ?_⟩
        rw [mid_nat]
        show ((j : Int)).toNat - ((((i + j) / 2 : Nat) : Int) + 1).toNat < ((j : Int)).toNat - ((i : Int)).toNat
        omega
      · rw [if_neg hc]
        have hend : (∃ i_1 j_1 : Nat, Value.int .i64 i = .int .i64 i_1 ∧ Value.int .i64 (((i : Int) + j) / 2) = .int .i64 j_1 ∧ i_1 ≤ j_1 ∧ j_1 ≤ l.length ∧ Hid ((∀ k, (h : k < l.length) → k < i_1 → l[k].1 < x) ∧ (∀ k, (h : k < l.length) → j_1 ≤ k → x ≤ l[k].1) ∧ Below w.heap.size w w1)) ∧ (intOf (.int .i64 (((i : Int) + j) / 2))).toNat - (intOf (.int .i64 i)).toNat < (intOf (.int .i64 j)).toNat - (intOf (.int .i64 i)).toNat := by
          refine ⟨⟨i, (i + j) / 2, rfl, by rw [mid_nat], by omega, by omega, HH.out.1, search_down HS.out hm (by rw [← HV.out]; omega), HB1.out⟩, ?_⟩
          rw [mid_nat]
          show ((((i + j) / 2 : Nat) : Int)).toNat - ((i : Int)).toNat < ((j : Int)).toNat - ((i : Int)).toNat
          omega
        have HE := hid hend
        clear hend
        by_cases hc2 : x < hv
        · rw [if_pos hc2]
          go_wp2_with fail
          exact HE.out
        · rw [if_neg hc2]
          go_wp2_with fail
          exact HE.out
    · have i1 : ¬ (i : Int) < (j : Int) := by omega
      by_cases hn : i < l.length
      · obtain ⟨b, off, rfl, hb, e0, e1⟩ := HR.out i hn
        have f0 := (HH.out.2.2.cell (p := ⟨b, off + i * 2, none⟩) hb).trans e0
        have f1 := (HH.out.2.2.cell (p := ⟨b, off + i * 2 + 1, none⟩) hb).trans e1
        have j1 : (0 : Int) ≤ (i : Int) := by omega
        have j2 : (i : Int) < (l.length : Int) := by omega
        clear e0 e1
        go_wp2_with fail
        refine (HC.out _ _ _ _).mono ?_
        rintro e w1 ⟨rfl, b1⟩
        go_wp2_with fail
        go_ret2
        exact search_end hij hlt hj HH.out.1 HH.out.2.1 (HH.out.2.2.trans (b1.mono HH.out.2.2.size)) (by
          unfold cmpI
          by_cases h1 : l[i].1 < x
          · rw [if_pos h1]; simp [hn]; omega
          · rw [if_neg h1]
            by_cases h2 : x < l[i].1
            · rw [if_pos h2]; simp [hn]; omega
            · rw [if_neg h2]; simp [hn]; omega)
      · have i2 : ¬ (i : Int) < (l.length : Int) := by omega
        go_wp2_with fail
        go_ret2
        exact search_end hij hlt hj HH.out.1 HH.out.2.1 HH.out.2.2 (by simp [hn])

theorem place_any (kb : Nat) (a : Option Addr) (cap : Nat) (l : List (Int × ByteArray)) (y : Value) (x : Int) (w : World) (hk : w.heap[kb]? = some (.cells #[.slice a l.length cap, y] 77 (0, 0))) (hr : HRd w.heap.size w a l) (hl : l.length ≤ 1000) (hs : Rises l) :
    Calls Tryz.prog 44 #[.pointer (some ⟨kb, 0, none⟩), .int .i64 x] w
      fun e w' => (∃ p : Nat, e = .returned (.tuple #[.int .i64 p, .bool (decide (∃ h : p < l.length, l[p].1 = x))]) ∧ p ≤ l.length ∧ (∀ i, (h : i < l.length) → i < p → l[i].1 < x) ∧ (∀ i, (h : i < l.length) → p ≤ i → x ≤ l[i].1)) ∧ Below w.heap.size w w' := by
  have HS := hid (search_any a cap l x w hr hl hs)
  have c0 := cell_of_row _ _ 0 _ _ _ hk
  clear hr hs hk
  go_enter Tryz.func44, Tryz.ntmps44
  go_wp2_with fail
  refine HS.out.mono ?_
  rintro e w1 ⟨⟨p, rfl, h1, h2, h3⟩, b1⟩
  go_wp2_with fail
  go_ret2
  exact ⟨⟨p, rfl, h1, h2, h3⟩, b1⟩

end Go.Proofs.YtbmohenjphmlgabGreat
