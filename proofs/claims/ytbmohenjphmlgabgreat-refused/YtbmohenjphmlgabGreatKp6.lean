/- The walks of a keeper's calls that are refused, and of Heads (of the program). -/
import Derived.Test.YtbmohenjphmlgabGreatKp5
import Derived.Test.YtbmohenjphmlgabGreatPrPath
namespace Go.Proofs.YtbmohenjphmlgabGreat
open Go.RowKit
set_option maxRecDepth 100000

/-- The outer Trust hands on. -/
theorem outer_trust {k0 k1 : Nat} {x : Int} {r : ByteArray} {w : World} {Q : Int → World → Prop} (h0 : w.heap[k0]? = some (.cells #[.pointer (some ⟨k1, 0, none⟩)] 63 (0, 0)))
    (h : Calls Tryz.prog 27 #[.pointer (some ⟨k1, 0, none⟩), .int .i64 x, .string r] w fun e w' => ∃ n, e = .returned (.int .i64 n) ∧ Q n w') :
    Calls Tryz.prog 9 #[.pointer (some ⟨k0, 0, none⟩), .int .i64 x, .string r] w fun e w' => ∃ n, e = .returned (.int .i64 n) ∧ Q n w' := by
  have H := hid h
  have c0 := cell_of_row _ _ 0 _ _ _ h0
  clear h h0
  go_enter Tryz.func9, Tryz.ntmps9
  go_wp2_with fail
  refine H.out.mono ?_
  rintro e w1 ⟨n, rfl, q⟩
  have HQ := hid q
  clear q c0
  go_wp2_with fail
  go_ret
  exact ⟨n, rfl, HQ.out⟩

theorem outer_drop {k0 k1 : Nat} {x : Int} {w : World} {Q : Int → World → Prop} (h0 : w.heap[k0]? = some (.cells #[.pointer (some ⟨k1, 0, none⟩)] 63 (0, 0)))
    (h : Calls Tryz.prog 33 #[.pointer (some ⟨k1, 0, none⟩), .int .i64 x] w fun e w' => ∃ n, e = .returned (.int .i64 n) ∧ Q n w') :
    Calls Tryz.prog 16 #[.pointer (some ⟨k0, 0, none⟩), .int .i64 x] w fun e w' => ∃ n, e = .returned (.int .i64 n) ∧ Q n w' := by
  have H := hid h
  have c0 := cell_of_row _ _ 0 _ _ _ h0
  clear h h0
  go_enter Tryz.func16, Tryz.ntmps16
  go_wp2_with fail
  refine H.out.mono ?_
  rintro e w1 ⟨n, rfl, q⟩
  have HQ := hid q
  clear q c0
  go_wp2_with fail
  go_ret
  exact ⟨n, rfl, HQ.out⟩

theorem outer_offer {k0 k1 : Nat} {x : Int} {r : ByteArray} {v : Value} {w : World} {Q : Int → World → Prop} (h0 : w.heap[k0]? = some (.cells #[.pointer (some ⟨k1, 0, none⟩)] 63 (0, 0)))
    (h : Calls Tryz.prog 31 #[.pointer (some ⟨k1, 0, none⟩), .int .i64 x, .string r, v] w fun e w' => ∃ n, e = .returned (.int .i64 n) ∧ Q n w') :
    Calls Tryz.prog 14 #[.pointer (some ⟨k0, 0, none⟩), .int .i64 x, .string r, v] w fun e w' => ∃ n, e = .returned (.int .i64 n) ∧ Q n w' := by
  have H := hid h
  have c0 := cell_of_row _ _ 0 _ _ _ h0
  clear h h0
  go_enter Tryz.func14, Tryz.ntmps14
  go_wp2_with fail
  refine H.out.mono ?_
  rintro e w1 ⟨n, rfl, q⟩
  have HQ := hid q
  clear q c0
  go_wp2_with fail
  go_ret
  exact ⟨n, rfl, HQ.out⟩

theorem outer_get {k0 k1 : Nat} {x : Int} {r : ByteArray} {w : World} {Q : ByteArray → Bool → Int → World → Prop} (h0 : w.heap[k0]? = some (.cells #[.pointer (some ⟨k1, 0, none⟩)] 63 (0, 0)))
    (h : Calls Tryz.prog 34 #[.pointer (some ⟨k1, 0, none⟩), .int .i64 x, .string r] w fun e w' => ∃ s b n, e = .returned (.tuple #[.string s, .bool b, .int .i64 n]) ∧ Q s b n w') :
    Calls Tryz.prog 17 #[.pointer (some ⟨k0, 0, none⟩), .int .i64 x, .string r] w fun e w' => ∃ s b n, e = .returned (.tuple #[.string s, .bool b, .int .i64 n]) ∧ Q s b n w' := by
  have H := hid h
  have c0 := cell_of_row _ _ 0 _ _ _ h0
  clear h h0
  go_enter Tryz.func17, Tryz.ntmps17
  go_wp2_with fail
  refine H.out.mono ?_
  rintro e w1 ⟨s, b, n, rfl, q⟩
  have HQ := hid q
  clear q c0
  go_wp2_with fail
  refine bodyPost_ret (v := .tuple #[.string s, .bool b, .int .i64 n]) (by simp [results, Tryz.results17, go_sem]) rfl ?_
  exact ⟨s, b, n, rfl, HQ.out⟩

/-- Where no root is trusted at a height. -/
theorem drop_none (k1 : Nat) (a : Option Addr) (cap : Nat) (l : List (Int × ByteArray)) (y : Value) (x : Int) (w : World)
    (hk : w.heap[k1]? = some (.cells #[.slice a l.length cap, y] 77 (0, 0))) (hr : HRd w.heap.size w a l) (hl : l.length ≤ 8) (hs : Rises l) (hx : ∀ q ∈ l, q.1 ≠ x) :
    Calls Tryz.prog 33 #[.pointer (some ⟨k1, 0, none⟩), .int .i64 x] w fun e w' => e = .returned (.int .i64 10) ∧ Below w.heap.size w w' := by
  have HP := hid (place_any k1 a cap l y x w hk hr (by omega) hs)
  have HX := hid hx
  clear hk hr hs hx
  go_enter Tryz.func33, Tryz.ntmps33
  go_wp2_with fail
  refine HP.out.mono ?_
  rintro e w2 ⟨⟨p, rfl, p1, p2, p3⟩, b2⟩
  rw [decide_eq_false (fun ⟨hp, hpx⟩ => HX.out _ (List.getElem_mem hp) hpx : ¬ ∃ h : p < l.length, l[p].1 = x)]
  clear p1 p2 p3
  have HB := hid b2
  clear b2
  go_wp2_with fail
  go_ret
  exact ⟨rfl, HB.out⟩

theorem offer_none (k1 : Nat) (a : Option Addr) (cap : Nat) (l : List (Int × ByteArray)) (y v : Value) (x : Int) (r : ByteArray) (w : World)
    (hk : w.heap[k1]? = some (.cells #[.slice a l.length cap, y] 77 (0, 0))) (hr : HRd w.heap.size w a l) (hl : l.length ≤ 8) (hs : Rises l) (hx : ∀ q ∈ l, q.1 ≠ x) :
    Calls Tryz.prog 31 #[.pointer (some ⟨k1, 0, none⟩), .int .i64 x, .string r, v] w fun e w' => e = .returned (.int .i64 10) ∧ Below w.heap.size w w' := by
  have HP := hid (place_any k1 a cap l y x w hk hr (by omega) hs)
  have HX := hid hx
  clear hk hr hs hx
  go_enter Tryz.func31, Tryz.ntmps31
  go_wp2_with fail
  refine HP.out.mono ?_
  rintro e w2 ⟨⟨p, rfl, p1, p2, p3⟩, b2⟩
  rw [decide_eq_false (fun ⟨hp, hpx⟩ => HX.out _ (List.getElem_mem hp) hpx : ¬ ∃ h : p < l.length, l[p].1 = x)]
  clear p1 p2 p3
  have HB := hid b2
  clear b2
  go_wp2_with fail
  go_ret
  exact ⟨rfl, HB.out⟩

theorem get_none (k1 : Nat) (a : Option Addr) (cap : Nat) (l : List (Int × ByteArray)) (y : Value) (x : Int) (r : ByteArray) (w : World)
    (hk : w.heap[k1]? = some (.cells #[.slice a l.length cap, y] 77 (0, 0))) (hr : HRd w.heap.size w a l) (hl : l.length ≤ 8) (hs : Rises l) (hx : ∀ q ∈ l, q.1 ≠ x) :
    Calls Tryz.prog 34 #[.pointer (some ⟨k1, 0, none⟩), .int .i64 x, .string r] w fun e w' => e = .returned (.tuple #[.string ⟨#[]⟩, .bool false, .int .i64 10]) ∧ Below w.heap.size w w' := by
  have HP := hid (place_any k1 a cap l y x w hk hr (by omega) hs)
  have HX := hid hx
  clear hk hr hs hx
  go_enter Tryz.func34, Tryz.ntmps34
  go_wp2_with fail
  refine HP.out.mono ?_
  rintro e w2 ⟨⟨p, rfl, p1, p2, p3⟩, b2⟩
  rw [decide_eq_false (fun ⟨hp, hpx⟩ => HX.out _ (List.getElem_mem hp) hpx : ¬ ∃ h : p < l.length, l[p].1 = x)]
  clear p1 p2 p3
  have HB := hid b2
  clear b2
  go_wp2_with fail
  refine bodyPost_ret (v := .tuple #[.string ⟨#[]⟩, .bool false, .int .i64 10]) (by simp [results, Tryz.results34, go_sem]) rfl ?_
  exact ⟨rfl, HB.out⟩

end Go.Proofs.YtbmohenjphmlgabGreat
