/- The walk of table (of the statements): pairs that may be, out of raw ones. -/
import Derived.Test.YtbmohenjphmlgaaKRows
import Derived.Deep.RegionWith
namespace Go.Proofs.Ytbmohenjphmlgaa
open Go.RowKit
set_option maxRecDepth 100000

def shortP (p : ByteArray × ByteArray) : ByteArray × ByteArray := (shortB p.1 6, shortB p.2 40)

/-- Pairs that may be, out of raw ones. -/
def tableB (l : List (ByteArray × ByteArray)) : List (ByteArray × ByteArray) := (l.take 30).map shortP

theorem tableB_len (l : List (ByteArray × ByteArray)) : (tableB l).length ≤ 30 := by simp [tableB]; omega
theorem tableB_ok (l : List (ByteArray × ByteArray)) : ∀ p ∈ tableB l, p.1.size ≤ 6 ∧ p.2.size ≤ 40 := by
  intro p hp
  obtain ⟨q, _, rfl⟩ := List.mem_map.1 hp
  exact ⟨shortB_size _ _, shortB_size _ _⟩

set_option maxHeartbeats 3200000 in
theorem table_any (a : Option Addr) (cap : Nat) (l : List (ByteArray × ByteArray)) (w : World) (hr : PRd w.heap.size w a l) (hl : l.length ≤ maxLen) : Calls Try.prog 38 #[.slice a l.length cap] w fun e w' => ∃ v, e = .returned v ∧ AOwn w' w.heap.size v (tableB l) ∧ Below w.heap.size w w' := by
  have HR := hid hr
  have HS6 : Hid (∀ s w, Calls Try.prog 36 #[.string s, .int .i64 6] w fun e w' => e = .returned (.string (shortB s 6)) ∧ w' = w) := fun s w => shortG_any s 6 w (by decide)
  have HS40 : Hid (∀ s w, Calls Try.prog 36 #[.string s, .int .i64 40] w fun e w' => e = .returned (.string (shortB s 40)) ∧ w' = w) := fun s w => shortG_any s 40 w (by decide)
  clear hr
  unfold maxLen at hl
  go_enter Try.func38, Try.ntmps38
  go_wp2_with fail
  go_loopw [3, 4] (fun v i wr => ∃ k : Nat, i = .int .i64 k ∧ k ≤ l.length ∧ k ≤ 30 ∧ Hid (AOwn wr w.heap.size v ((l.take k).map shortP) ∧ Below w.heap.size w wr)) (fun _ i _ => 30 - (intOf i).toNat)
  case atStart => exact ⟨0, rfl, Nat.zero_le _, Nat.zero_le _, aown_nil _ _, Below.refl _ _⟩
  case round =>
    obtain ⟨k, rfl, hk, hk30, HH⟩ := hrel
    obtain ⟨av, cv, hv, _⟩ := aown_shape HH.out.1
    subst hv
    by_cases hlt : k < l.length ∧ k < 30
    · obtain ⟨b, off, rfl, hb, e0, e1⟩ := HR.out k hlt.1
      have f0 := (HH.out.2.cell (p := ⟨b, off + k * 2, none⟩) hb).trans e0
      have f1 := (HH.out.2.cell (p := ⟨b, off + k * 2 + 1, none⟩) hb).trans e1
      have i1 : (0 : Int) ≤ (k : Int) := by omega
      have i2 : (k : Int) < (l.length : Int) := by omega
      have i3 : (k : Int) < 30 := by omega
      have HTK : Hid ((l.take (k + 1)).map shortP = (l.take k).map shortP ++ [shortP l[k]]) := by rw [Hid, List.take_succ_eq_append_getElem hlt.1, List.map_append]; rfl
      have HLE : Hid (((l.take k).map shortP).length ≤ 1000000) := by rw [Hid, List.length_map, List.length_take]; omega
      have hbw : b < wr.heap.size := Nat.lt_of_lt_of_le hb HH.out.2.size
      have g0 := e0
      have g1 := e1
      clear e0 e1
      generalize (l.take k).map shortP = tk at *
      have HO1 : Hid (AOwn wr.drew w.heap.size (.slice av tk.length cv) tk) := HH.out.1
      have HB1 : Hid (Below w.heap.size w wr.drew) := HH.out.2.drew
      go_wp2_with fail
      go_region_held3 (fun w' => w'.cell? ⟨b, off + k * 2, none⟩ = some (.string l[k].1) ∧ w'.cell? ⟨b, off + k * 2 + 1, none⟩ = some (.string l[k].2)) (go_keep)
        ((first
          | (go_at_call_of 36 (Value.int .i64 6); refine (HS6.out _ _).mono ?_; rintro e w3 ⟨rfl, hw⟩; obtain rfl := hw.symm; clear hw)
          | (go_at_call_of 36 (Value.int .i64 40); refine (HS40.out _ _).mono ?_; rintro e w3 ⟨rfl, hw⟩; obtain rfl := hw.symm; clear hw)
          | (refine step_push_apair rfl (.tmp 15) (.tmp 29) rfl (shortP l[k]) _ rfl rfl rfl HO1.out HB1.out (Nat.le_refl _) HLE.out ?_; intro v' w' ho' hb' hk'; have HO' := hid ho'; have HB' := hid hb'; have y0 := (hb'.cell (p := ⟨b, off + k * 2, none⟩) hb).trans g0; have y1 := (hb'.cell (p := ⟨b, off + k * 2 + 1, none⟩) hb).trans g1; clear ho' hb' hk')))
      all_goals go_wp2_with fail
      all_goals exact ⟨⟨k + 1, by go_num, by omega, by omega, by rw [HTK.out]; exact HO'.out, HB'.out⟩, by simp [intOf]; omega⟩
    · have HK : Hid ((l.take k).map shortP = tableB l) := by
        rw [Hid]
        unfold tableB
        by_cases h30 : k = 30
        · rw [h30]
        · rw [List.take_of_length_le (by omega), List.take_of_length_le (by omega)]
      have HO := hid HH.out.1
      have HB := hid HH.out.2
      rw [HK.out] at HO ⊢
      clear HH HK
      have HTB : Hid (tableB l = tableB l) := rfl
      obtain ⟨tb, htb⟩ : ∃ t, t = tableB l := ⟨_, rfl⟩
      rw [← htb] at HO ⊢
      have HTB2 : Hid (tb = tableB l) := htb
      clear htb HTB
      by_cases hl1 : k < l.length
      · have i2 : (k : Int) < (l.length : Int) := by omega
        have i3 : ¬ (k : Int) < 30 := by omega
        clear hlt
        go_wp2_with fail
        go_ret
        exact ⟨_, rfl, by rw [← HTB2.out]; exact HO.out, HB.out⟩
      · have i2 : ¬ (k : Int) < (l.length : Int) := by omega
        clear hlt
        go_wp2_with fail
        go_ret
        exact ⟨_, rfl, by rw [← HTB2.out]; exact HO.out, HB.out⟩
end Go.Proofs.Ytbmohenjphmlgaa
