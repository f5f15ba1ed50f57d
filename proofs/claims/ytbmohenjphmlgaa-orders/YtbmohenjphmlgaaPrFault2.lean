/- The walks of Root, Prove, Verify that are refused (of the program). -/
import Derived.Test.YtbmohenjphmlgaaPrFault
namespace Go.Proofs.Ytbmohenjphmlgaa
open Go.RowKit
set_option maxRecDepth 100000

theorem root_fault {a : Option Addr} {n cap : Nat} {w : World} {N : Nat} (hN : N ≠ 0) (h : Calls Try.prog 72 #[.slice a n cap, .string ⟨#[]⟩] w fun e w' => e = .returned (.int .i64 N) ∧ Below w.heap.size w w') :
    Calls Try.prog 24 #[.slice a n cap] w fun e w' => e = .returned (.tuple #[.string ⟨#[]⟩, .int .i64 N]) ∧ Below w.heap.size w w' := by
  have H1 : Calls Try.prog 53 #[.slice a n cap] w fun e w' => e = .returned (.tuple #[.string ⟨#[]⟩, .int .i64 N]) ∧ Below w.heap.size w w' := by
    have H := hid h
    have hN' : ¬ (N : Int) = 0 := by omega
    clear h hN
    go_enter Try.func53, Try.ntmps53
    go_wp2_with fail
    refine H.out.mono ?_
    rintro e w1 ⟨rfl, b1⟩
    have HB := hid b1
    clear b1
    go_wp2_with fail
    go_ret2
    exact ⟨rfl, HB.out⟩
  have H := hid H1
  clear h H1
  go_enter Try.func24, Try.ntmps24
  go_wp2_with fail
  refine H.out.mono ?_
  rintro e w1 ⟨rfl, b1⟩
  have HB := hid b1
  clear b1
  go_wp2_with fail
  go_ret2
  exact ⟨rfl, HB.out⟩

theorem prove_fault {a : Option Addr} {n cap : Nat} {key : ByteArray} {w : World} {N : Nat} (hN : N ≠ 0) (h : Calls Try.prog 72 #[.slice a n cap, .string key] w fun e w' => e = .returned (.int .i64 N) ∧ Below w.heap.size w w') :
    Calls Try.prog 27 #[.slice a n cap, .string key] w fun e w' => e = .returned (.tuple #[.slice none 0 0, .int .i64 N]) ∧ Below w.heap.size w w' := by
  have H1 : Calls Try.prog 57 #[.slice a n cap, .string key] w fun e w' => e = .returned (.tuple #[.slice none 0 0, .int .i64 N]) ∧ Below w.heap.size w w' := by
    have H := hid h
    have hN' : ¬ (N : Int) = 0 := by omega
    clear h hN
    go_enter Try.func57, Try.ntmps57
    go_wp2_with fail
    refine H.out.mono ?_
    rintro e w1 ⟨rfl, b1⟩
    have HB := hid b1
    clear b1
    go_wp2_with fail
    go_ret2
    exact ⟨rfl, HB.out⟩
  have H := hid H1
  clear h H1
  go_enter Try.func27, Try.ntmps27
  go_wp2_with fail
  refine H.out.mono ?_
  rintro e w1 ⟨rfl, b1⟩
  have HB := hid b1
  clear b1
  go_wp2_with fail
  go_ret2
  exact ⟨rfl, HB.out⟩

/-- Verify hands on what check tells. -/
theorem verify_out {root key : ByteArray} {v : Value} {w : World} {Q : ByteArray → Int → World → Prop} (h : Calls Try.prog 80 #[.string root, .string key, v] w fun e w' => ∃ a n cap s m, e = .returned (.tuple #[.slice a n cap, .string s, .int .i64 m]) ∧ Q s m w') :
    Calls Try.prog 32 #[.string root, .string key, v] w fun e w' => ∃ s m, e = .returned (.tuple #[.string s, .bool (!(s.toList == [])), .int .i64 m]) ∧ Q s m w' := by
  have H1 : Calls Try.prog 61 #[.string root, .string key, v] w fun e w' => ∃ s m, e = .returned (.tuple #[.string s, .bool (!(s.toList == [])), .int .i64 m]) ∧ Q s m w' := by
    have H := hid h
    clear h
    go_enter Try.func61, Try.ntmps61
    go_wp2_with fail
    refine H.out.mono ?_
    rintro e w1 ⟨a, n, cap, s, m, rfl, q⟩
    have HQ := hid q
    clear q
    go_wp2_with fail
    refine bodyPost_ret (v := .tuple #[.string s, .bool (!(s.toList == [])), .int .i64 m]) (by simp [results, Try.results61, go_sem]) rfl ?_
    exact ⟨s, m, rfl, HQ.out⟩
  have H := hid H1
  clear h H1
  go_enter Try.func32, Try.ntmps32
  go_wp2_with fail
  refine H.out.mono ?_
  rintro e w1 ⟨s, m, rfl, q⟩
  have HQ := hid q
  clear q
  go_wp2_with fail
  refine bodyPost_ret (v := .tuple #[.string s, .bool (!(s.toList == [])), .int .i64 m]) (by simp [results, Try.results32, go_sem]) rfl ?_
  exact ⟨s, m, rfl, HQ.out⟩

theorem check_fault {root key : ByteArray} {v : Value} {w : World} {N : Nat} (hN : N ≠ 0) (h : Calls Try.prog 103 #[.string root, .string key, v] w fun e w' => e = .returned (.int .i64 N) ∧ w' = w) :
    Calls Try.prog 80 #[.string root, .string key, v] w fun e w' => e = .returned (.tuple #[.slice none 0 0, .string ⟨#[]⟩, .int .i64 N]) ∧ Below w.heap.size w w' := by
  have H := hid h
  have hN' : ¬ (N : Int) = 0 := by omega
  clear h hN
  go_enter Try.func80, Try.ntmps80
  go_wp2_with fail
  refine H.out.mono ?_
  rintro e w1 ⟨rfl, hw⟩
  obtain rfl := hw.symm
  go_wp2_with fail
  refine bodyPost_ret (v := .tuple #[.slice none 0 0, .string ⟨#[]⟩, .int .i64 N]) (by simp [results, Try.results80, go_sem]) rfl ?_
  exact ⟨rfl, Below.refl _ _⟩

theorem verify_fault {root key : ByteArray} {v : Value} {w : World} {N : Nat} (hN : N ≠ 0) (h : Calls Try.prog 103 #[.string root, .string key, v] w fun e w' => e = .returned (.int .i64 N) ∧ w' = w) :
    Calls Try.prog 32 #[.string root, .string key, v] w fun e w' => ∃ s b, e = .returned (.tuple #[.string s, .bool b, .int .i64 N]) ∧ Below w.heap.size w w' := by
  refine (verify_out (Q := fun s m w' => m = N ∧ Below w.heap.size w w') ((check_fault hN h).mono ?_)).mono ?_
  · rintro e w' ⟨rfl, hb⟩; exact ⟨_, _, _, _, _, rfl, rfl, hb⟩
  · rintro e w' ⟨s, m, rfl, rfl, hb⟩; exact ⟨s, _, rfl, hb⟩

end Go.Proofs.Ytbmohenjphmlgaa
