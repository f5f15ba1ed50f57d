/- The walk of the statement Encodes: of an item that can be read and is not too great it returns true, and of what was there nothing has turned. -/
import Derived.Test.YtplfjengfhijhaaUntouched
namespace Go.Proofs.Ytplfjengfhijhaa
open Go.RowKit

set_option maxRecDepth 100000 in
set_option maxHeartbeats 1600000 in
theorem encodes_any (n : Nat) (t : Itm) (w : World) (v : Value) (hc : Itm.wt t ≤ 1000000000) (hrep : Rep w.heap.size w (n + 1) v t) :
    Calls Try.prog 3 #[v] w fun e w' => e = .returned (.bool true) ∧ Below w.heap.size w w' := by
  obtain ⟨a, cap, rfl, _⟩ := id hrep
  have HR := hid hrep
  have hcnt : Itm.cnt t ≤ 1000000000 := by have := Itm.cnt_le_wt t; omega
  clear hrep
  go_enter Try.func3, Try.ntmps3
  go_wp2_with fail
  refine (handed_any (n + 1) _ t _ (rep_in HR.out ((Below.refl _ _).alloc (Nat.le_refl _) _)) hc).mono ?_
  rintro e w1 ⟨v', rfl, hhand, b1⟩
  obtain ⟨g, rfl⟩ := hand_shape hhand
  have HH := hid hhand
  have HB1 := hid b1
  obtain ⟨x0, x1, x2⟩ := box_third b1
  clear hhand b1
  go_wp2_with fail
  have HRH := hid (rep_of_hand _ _ _ _ _ (Nat.le_refl _) hc HH.out)
  refine (encode_any n t _ _ hcnt (rep_in HRH.out ((Below.refl _ _).alloc (Nat.le_refl _) _))).mono ?_
  rintro e w2 ⟨rfl, b2⟩
  have HB2 := hid b2
  have hb12 : Below w1.heap.size w1 w2 := below_of_box b2
  have HB12 := hid hb12
  obtain ⟨y0, y1, y2⟩ := box_third (HB1.out.trans (hb12.mono HB1.out.size))
  obtain ⟨h0, h1, h2⟩ := box_third b2
  have HBW2 := hid (below_of_box (HB1.out.trans (hb12.mono HB1.out.size)))
  clear b2 hb12
  go_wp2_with fail
  refine (encodeR_any (n + 1) t _ _ hc (rep_in HR.out HBW2.out)).mono ?_
  rintro e w3 ⟨rfl, b3⟩
  have HB3 := hid b3
  have hsz : w1.heap.size < w2.heap.size := by have := HB2.out.size; simp at this; omega
  have hsz0 : w.heap.size < w1.heap.size := by have := HB1.out.size; simp at this; omega
  obtain ⟨hcc, hff⟩ := bcell b3
  have HBW3 := hid (HBW2.out.trans (b3.mono HBW2.out.size))
  have HB13 := hid (HB12.out.trans (b3.mono HB12.out.size))
  clear b3
  have hsz2 : w.heap.size < w2.heap.size := by omega
  generalize Itm.encA t = E at *
  go_wp2_with fail
  have hlo : (w.alloc (.cells #[.bool t.list, .string ⟨t.bytes.toArray⟩, .slice a t.items.length cap] 24)).heap.size ≤ w1.heap.size := HB1.out.size
  refine (untouched_any (n + 1) _ _ t w3 (w.alloc (.cells #[.bool t.list, .string ⟨t.bytes.toArray⟩, .slice a t.items.length cap] 24)).heap.size w1.heap.size (n + 1) (hand_frame _ _ _ _ _ (fun k _ hk => HB13.out.block k hk) HH.out) HB13.out.size (rep_wider (by simp) _ _ _ (rep_frame HBW3.out _ _ _ HR.out)) hc).mono ?_
  rintro e w4 ⟨rfl, honly⟩
  have HO := hid honly
  clear honly
  have HN := hid (fun w => num_any (E.2 : Int) w)
  go_wp2_with fail
  refine (HN.out _).mono ?_
  rintro e w5 ⟨rfl, rfl⟩
  go_wp2_with fail
  go_ret
  refine ⟨by simp, HBW3.out.trans ((HO.out.below ?_).mono (by simp))⟩
  exact Nat.le_trans hlo HB13.out.size
end Go.Proofs.Ytplfjengfhijhaa
