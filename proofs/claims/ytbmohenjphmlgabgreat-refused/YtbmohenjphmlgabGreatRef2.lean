/- The walk of the statement Refused. -/
import Derived.Test.YtbmohenjphmlgabGreatRef1
namespace Go.Proofs.YtbmohenjphmlgabGreat
open Go.RowKit
set_option maxRecDepth 100000

theorem prd_one {w : World} {g : Nat} {k v : ByteArray} {e : TypeId} {fr : Nat × Nat} (h : w.heap[g]? = some (.cells #[.string k, .string v] e fr)) : PRd w.heap.size w (some ⟨g, 0, none⟩) [(k, v)] := by
  intro i hi
  obtain rfl : i = 0 := by simpa using hi
  exact ⟨g, 0, rfl, (Array.getElem?_eq_some_iff.1 h).1, cell_of_row _ _ 0 _ _ _ h, cell_of_row _ _ 1 _ _ _ h⟩

theorem root_many (a : Option Addr) (n cap : Nat) (w : World) (h : 60 < n) : Calls Tryz.prog 7 #[.slice a n cap] w fun e w' => e = .returned (.tuple #[.string ⟨#[]⟩, .int .i64 2]) ∧ Below w.heap.size w w' :=
  root_fault (N := 2) (by decide) ((tableFault_many ⟨#[]⟩ a n cap w h).mono (by rintro e w' ⟨rfl, rfl⟩; exact ⟨rfl, Below.refl _ _⟩))

theorem root_one (g : Nat) (k v : ByteArray) (w : World) (h : w.heap[g]? = some (.cells #[.string k, .string v] 27 (0, 0))) (hk : 6 < k.size) : Calls Tryz.prog 7 #[.slice (some ⟨g, 0, none⟩) 1 1] w fun e w' => e = .returned (.tuple #[.string ⟨#[]⟩, .int .i64 3]) ∧ Below w.heap.size w w' := by
  have := tableFault_any ⟨#[]⟩ (some ⟨g, 0, none⟩) 1 [(k, v)] w (prd_one h)
  rw [tfault_key (by simp) (.inl ⟨_, List.mem_singleton.2 rfl, hk⟩)] at this
  exact root_fault (N := 3) (by decide) this

theorem prove_one_key (g : Nat) (k v key : ByteArray) (w : World) (h : w.heap[g]? = some (.cells #[.string k, .string v] 27 (0, 0))) (hk : 6 < key.size) : Calls Tryz.prog 13 #[.slice (some ⟨g, 0, none⟩) 1 1, .string key] w fun e w' => e = .returned (.tuple #[.slice none 0 0, .int .i64 3]) ∧ Below w.heap.size w w' := by
  have := tableFault_any key (some ⟨g, 0, none⟩) 1 [(k, v)] w (prd_one h)
  rw [tfault_key (by simp) (.inr hk)] at this
  exact prove_fault (N := 3) (by decide) this

theorem prove_one_value (g : Nat) (k v key : ByteArray) (w : World) (h : w.heap[g]? = some (.cells #[.string k, .string v] 27 (0, 0))) (hk : ¬ 6 < key.size) (hk2 : ¬ 6 < k.size) (hv : 40 < v.size) : Calls Tryz.prog 13 #[.slice (some ⟨g, 0, none⟩) 1 1, .string key] w fun e w' => e = .returned (.tuple #[.slice none 0 0, .int .i64 4]) ∧ Below w.heap.size w w' := by
  have := tableFault_any key (some ⟨g, 0, none⟩) 1 [(k, v)] w (prd_one h)
  rw [tfault_value (by simp) (fun p hp => by rw [List.mem_singleton.1 hp]; exact hk2) hk ⟨_, List.mem_singleton.2 rfl, hv⟩] at this
  exact prove_fault (N := 4) (by decide) this

/-- proofFault where the length alone tells. -/
theorem proofFault_root (root key : ByteArray) (v : Value) (w : World) (h : ¬ root.size = 8) : Calls Tryz.prog 85 #[.string root, .string key, v] w fun e w' => e = .returned (.int .i64 5) ∧ w' = w := by
  have HI := hid (fun s w => isRoot_any s w)
  have D1 : Hid (decide ((root.size : Int) = 8) = false) := decide_eq_false (by omega)
  clear h
  go_enter Tryz.func85, Tryz.ntmps85
  go_wp2_with fail
  refine (HI.out _ _).mono ?_
  rintro e w1 ⟨rfl, hw⟩
  obtain rfl := hw.symm
  rw [D1.out]
  go_wp2_with fail
  go_ret
  exact ⟨rfl, rfl⟩

theorem proofFault_key (root key : ByteArray) (v : Value) (w : World) (h1 : root.size = 8) (h2 : 6 < key.size) : Calls Tryz.prog 85 #[.string root, .string key, v] w fun e w' => e = .returned (.int .i64 3) ∧ w' = w := by
  have HI := hid (fun s w => isRoot_any s w)
  have HK := hid (fun s w => isLongKey_any s w)
  have D1 : Hid (decide ((root.size : Int) = 8) = true) := decide_eq_true (by omega)
  have D2 : Hid (decide ((6 : Int) < key.size) = true) := decide_eq_true (by omega)
  clear h1 h2
  go_enter Tryz.func85, Tryz.ntmps85
  go_wp2_with fail
  refine (HI.out _ _).mono ?_
  rintro e w1 ⟨rfl, hw⟩
  obtain rfl := hw.symm
  rw [D1.out]
  go_wp2_with fail
  refine (HK.out _ _).mono ?_
  rintro e w1 ⟨rfl, hw⟩
  obtain rfl := hw.symm
  rw [D2.out]
  go_wp2_with fail
  go_ret
  exact ⟨rfl, rfl⟩

theorem proofFault_many (root key : ByteArray) (a : Option Addr) (n cap : Nat) (w : World) (h1 : root.size = 8) (h2 : ¬ 6 < key.size) (h3 : 20 < n) : Calls Tryz.prog 85 #[.string root, .string key, .slice a n cap] w fun e w' => e = .returned (.int .i64 2) ∧ w' = w := by
  have HI := hid (fun s w => isRoot_any s w)
  have HK := hid (fun s w => isLongKey_any s w)
  have D1 : Hid (decide ((root.size : Int) = 8) = true) := decide_eq_true (by omega)
  have D2 : Hid (decide ((6 : Int) < key.size) = false) := decide_eq_false (by omega)
  have h3' : (20 : Int) < (n : Int) := by omega
  clear h1 h2 h3
  go_enter Tryz.func85, Tryz.ntmps85
  go_wp2_with fail
  refine (HI.out _ _).mono ?_
  rintro e w1 ⟨rfl, hw⟩
  obtain rfl := hw.symm
  rw [D1.out]
  go_wp2_with fail
  refine (HK.out _ _).mono ?_
  rintro e w1 ⟨rfl, hw⟩
  obtain rfl := hw.symm
  rw [D2.out]
  go_wp2_with fail
  go_ret
  exact ⟨rfl, rfl⟩

theorem decode_big (s : ByteArray) (w : World) (h : 1000 < s.size) : Calls Tryz.prog 20 #[.string s] w fun e w' => e = .returned (.tuple #[.agg #[.bool false, .string ⟨#[]⟩, .slice none 0 0], .int .i64 2]) ∧ Below w.heap.size w w' := by
  have hd : Itm.dec s.data.toList = .error 2 := by unfold Itm.dec; rw [if_pos (by rw [ba_len]; exact h)]
  refine (decode_any s w).mono ?_
  rintro e w' ⟨h1, _, h3⟩
  exact ⟨h1 2 hd, h3⟩

end Go.Proofs.YtbmohenjphmlgabGreat
