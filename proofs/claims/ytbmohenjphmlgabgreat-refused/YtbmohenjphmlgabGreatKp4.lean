/- The walks of Trust (of the program). -/
import Derived.Test.YtbmohenjphmlgabGreatKp3
namespace Go.Proofs.YtbmohenjphmlgabGreat
open Go.RowKit
set_option maxRecDepth 100000

theorem trust_height (k1 : Nat) (x : Int) (r : ByteArray) (w : World) (h : x < 0 ∨ 1000000 < x) : Calls Tryz.prog 27 #[.pointer (some ⟨k1, 0, none⟩), .int .i64 x, .string r] w fun e w' => e = .returned (.int .i64 7) ∧ w' = w := by
  by_cases h1 : x < 0
  · clear h
    go_enter Tryz.func27, Tryz.ntmps27
    go_wp2_with fail
    go_ret
    exact ⟨rfl, rfl⟩
  · have h2 : 1000000 < x := by omega
    clear h
    go_enter Tryz.func27, Tryz.ntmps27
    go_wp2_with fail
    go_ret
    exact ⟨rfl, rfl⟩

theorem trust_root (k1 : Nat) (x : Int) (r : ByteArray) (w : World) (h1 : 0 ≤ x) (h2 : x ≤ 1000000) (h : ¬ r.size = 8) : Calls Tryz.prog 27 #[.pointer (some ⟨k1, 0, none⟩), .int .i64 x, .string r] w fun e w' => e = .returned (.int .i64 5) ∧ w' = w := by
  have HR := hid (fun s w => isRoot_any s w)
  have h1' : ¬ x < 0 := by omega
  have h2' : ¬ 1000000 < x := by omega
  have h' : ¬ (r.size : Int) = 8 := by omega
  go_enter Tryz.func27, Tryz.ntmps27
  go_wp2_with fail
  refine (HR.out _ _).mono ?_
  rintro e w1 ⟨rfl, rfl⟩
  rw [decide_eq_false h']
  go_wp2_with fail
  go_ret
  exact ⟨rfl, rfl⟩

theorem bytes_ne {a b : ByteArray} (h : a ≠ b) : (a.toList == b.toList) = false := by
  rw [beq_eq_false_iff_ne]
  intro e
  apply h
  rw [ByteArray.toList_eq, ByteArray.toList_eq] at e
  cases a; cases b
  simp only [Array.toList_inj] at e
  rw [e]

theorem place_hit {l : List (Int × ByteArray)} {p : Nat} {x : Int} {b : Bool} (h : b = decide (∃ h : p < l.length, l[p].1 = x)) (hb : b = true) : ∃ h : p < l.length, l[p].1 = x := by
  rw [hb] at h
  exact of_decide_eq_true h.symm

/-- The root at a height that is taken. -/
theorem trust_old (k1 : Nat) (a : Option Addr) (cap : Nat) (l : List (Int × ByteArray)) (y : Value) (x : Int) (r r0 : ByteArray) (w : World) (h1 : 0 ≤ x) (h2 : x ≤ 1000000) (h : r.size = 8)
    (hk : w.heap[k1]? = some (.cells #[.slice a l.length cap, y] 77 (0, 0))) (hr : HRd w.heap.size w a l) (hl : l.length ≤ 8) (hs : Rises l) (hx : (x, r0) ∈ l) :
    Calls Tryz.prog 27 #[.pointer (some ⟨k1, 0, none⟩), .int .i64 x, .string r] w fun e w' => e = .returned (.int .i64 (if r0 = r then 0 else 8)) ∧ Below w.heap.size w w' := by
  have HR := hid (fun s w => isRoot_any s w)
  have HP := hid (place_any k1 a cap l y x w hk hr (by omega) hs)
  have HRD := hid hr
  have HS := hid hs
  have HX := hid hx
  have HK := hid hk
  have h1' : ¬ x < 0 := by omega
  have h2' : ¬ 1000000 < x := by omega
  have h' : (r.size : Int) = 8 := by omega
  clear hk hr hs hx
  go_enter Tryz.func27, Tryz.ntmps27
  go_wp2_with fail
  refine (HR.out _ _).mono ?_
  rintro e w1 ⟨rfl, rfl⟩
  rw [decide_eq_true h']
  go_wp2_with fail
  refine HP.out.mono ?_
  rintro e w2 ⟨⟨p, rfl, p1, p2, p3⟩, b2⟩
  have hfound : ∃ h : p < l.length, l[p].1 = x ∧ l[p].2 = r0 := by
    obtain ⟨j, hj, hjl⟩ := List.getElem_of_mem HX.out
    have hj1 : l[j].1 = x := by rw [hjl]
    have : j = p := by
      rcases Nat.lt_trichotomy j p with h | h | h
      · have := p2 j hj h; omega
      · exact h
      · have := HS.out.at (i := p) (j := j) h hj
        have := p3 p (by omega) (Nat.le_refl _); omega
    subst this
    exact ⟨hj, hj1, by rw [hjl]⟩
  obtain ⟨hp, hp1, hp2⟩ := hfound
  rw [decide_eq_true (⟨hp, hp1⟩ : ∃ h : p < l.length, l[p].1 = x)]
  obtain ⟨b, off, rfl, hb, e0, e1⟩ := HRD.out p hp
  rw [hp2] at e1
  have f1 := (b2.cell (p := ⟨b, off + p * 2 + 1, none⟩) hb).trans e1
  have c0 := (b2.cell (p := ⟨k1, 0, none⟩) (Array.getElem?_eq_some_iff.1 HK.out).1).trans (cell_of_row _ _ 0 _ _ _ HK.out)
  have i1 : (0 : Int) ≤ (p : Int) := by omega
  have i2 : (p : Int) < (l.length : Int) := by omega
  have HB := hid b2
  clear e0 e1 p1 p2 p3 b2 hp1 hp2
  by_cases he : r0 = r
  · subst he
    go_wp2_with fail
    go_ret
    exact ⟨rfl, HB.out⟩
  · have hne := bytes_ne he
    go_wp2_with fail
    go_ret
    exact ⟨rfl, HB.out⟩

end Go.Proofs.YtbmohenjphmlgabGreat
