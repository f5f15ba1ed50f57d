/- The walks of Encode: the bytes of an item, or the error. -/
import Derived.Test.YtbmohenjphmlgaaWell2
import Derived.Test.YtbmohenjphmlgaaBytesOf
namespace Go.Proofs.Ytbmohenjphmlgaa
open Go.RowKit
set_option maxRecDepth 100000

namespace Itm
/-- What Encode answers: the bytes, and the error's number. -/
def encA (t : Itm) : List UInt8 × Nat := if pure t then (if deep t ≤ 8 ∧ (enc t).length ≤ 1000 then (enc t, 0) else ([], 2)) else ([], 1)

theorem encA_impure {t : Itm} (h : pure t = false) : encA t = ([], 1) := by unfold encA; rw [h]; rfl
theorem encA_big {t : Itm} (h : pure t = true) (h2 : ¬ (deep t ≤ 8 ∧ (enc t).length ≤ 1000)) : encA t = ([], 2) := by unfold encA; rw [if_pos h, if_neg h2]
theorem encA_ok {t : Itm} (h : pure t = true) (h2 : deep t ≤ 8 ∧ (enc t).length ≤ 1000) : encA t = (enc t, 0) := by unfold encA; rw [if_pos h, if_pos h2]
end Itm

set_option maxHeartbeats 800000 in
theorem itemsEncode_any (n : Nat) (t : Itm) (w : World) (v : Value) (hc : Itm.cnt t ≤ 1000000000) (hrep : Rep w.heap.size w (n + 1) v t) :
    Calls Try.prog 41 #[v] w fun e w' => e = .returned (.tuple #[.string ⟨(Itm.encA t).1.toArray⟩, .int .i64 ((Itm.encA t).2 : Nat)]) ∧ Below w.heap.size w w' := by
  obtain ⟨a, cap, rfl, _⟩ := id hrep
  have HR := hid hrep
  have HW := hid (fun w h => well_any n t w a cap hc h)
  have HBO := hid (fun w h => bytesOf_any (n + 1) (.agg #[.bool t.list, .string ⟨t.bytes.toArray⟩, .slice a t.items.length cap]) t w 8 h (by omega))
  clear hrep
  cases hp : Itm.pure t with
  | false =>
    rw [Itm.encA_impure hp]
    rw [hp] at HW
    clear hp HBO
    go_enter Try.func41, Try.ntmps41
    go_wp2_with fail
    refine (HW.out _ (rep_in HR.out ((Below.refl _ _).alloc (Nat.le_refl _) _))).mono ?_
    rintro e w1 ⟨rfl, hbel⟩
    go_wp2_with fail
    go_ret2
    exact ⟨rfl, ((Below.refl _ _).alloc (Nat.le_refl _) _).trans (hbel.mono (by simp))⟩
  | true =>
    have HP := hid hp
    rw [hp] at HW
    clear hp
    go_enter Try.func41, Try.ntmps41
    go_wp2_with fail
    refine (HW.out _ (rep_in HR.out ((Below.refl _ _).alloc (Nat.le_refl _) _))).mono ?_
    rintro e w1 ⟨rfl, hbel⟩
    have HB1 : Hid (Below w.heap.size w w1) := ((Below.refl _ _).alloc (Nat.le_refl _) _).trans (hbel.mono (by simp))
    obtain ⟨hcc, hff⟩ := bcell hbel
    go_wp2_with fail
    refine (HBO.out _ (rep_in HR.out HB1.out)).mono ?_
    rintro e w2 ⟨hbel2, hyes, hno⟩
    have HB2 := hid (HB1.out.trans (hbel2.mono HB1.out.size))
    by_cases hf : fits t 8
    · obtain ⟨v2, rfl, hbr⟩ := hyes hf
      have HBR := hid hbr
      have hcv := run_bytes_string hbr
      obtain ⟨a2, c2, rfl⟩ := brd_shape hbr
      have HE := hid (Itm.encA_ok HP.out hf)
      clear hyes hno hbel2 hbr hf hbel hcc hff
      go_wp2_with fail
      go_ret2
      exact ⟨by rw [HE.out]; rfl, HB2.out⟩
    · obtain ⟨a2, n2, c2, rfl⟩ := hno hf
      have HE := hid (Itm.encA_big HP.out hf)
      clear hyes hno hbel2 hf hbel hcc hff
      go_wp2_with fail
      go_ret2
      exact ⟨by rw [HE.out]; rfl, HB2.out⟩

set_option maxHeartbeats 800000 in
theorem encode_any (n : Nat) (t : Itm) (w : World) (v : Value) (hc : Itm.cnt t ≤ 1000000000) (hrep : Rep w.heap.size w (n + 1) v t) :
    Calls Try.prog 13 #[v] w fun e w' => e = .returned (.tuple #[.string ⟨(Itm.encA t).1.toArray⟩, .int .i64 ((Itm.encA t).2 : Nat)]) ∧ Below w.heap.size w w' := by
  obtain ⟨a, cap, rfl, _⟩ := id hrep
  have HR := hid hrep
  have HW := hid (fun w h => itemsEncode_any n t w (.agg #[.bool t.list, .string ⟨t.bytes.toArray⟩, .slice a t.items.length cap]) hc h)
  clear hrep
  generalize Itm.encA t = E at *
  go_enter Try.func13, Try.ntmps13
  go_wp2_with fail
  refine (HW.out _ (rep_in HR.out ((Below.refl _ _).alloc (Nat.le_refl _) _))).mono ?_
  rintro e w1 ⟨rfl, hbel⟩
  go_wp2_with fail
  go_ret2
  exact ⟨rfl, ((Below.refl _ _).alloc (Nat.le_refl _) _).trans (hbel.mono (by simp))⟩
end Go.Proofs.Ytbmohenjphmlgaa
