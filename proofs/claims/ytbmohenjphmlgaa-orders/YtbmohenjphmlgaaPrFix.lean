/- The walks of strings.HasPrefix and strings.CutPrefix. -/
import Derived.Test.YtbmohenjphmlgaaPrPath2
namespace Go.Proofs.Ytbmohenjphmlgaa
open Go.RowKit
set_option maxRecDepth 100000

/-- Does s begin with p? -/
def pre (p s : ByteArray) : Bool := p.data.toList.isPrefixOf s.data.toList

theorem pre_long {p s : ByteArray} (h : ¬ p.size ≤ s.size) : pre p s = false := by
  unfold pre
  rw [Bool.eq_false_iff, Ne, List.isPrefixOf_iff_prefix]
  intro hp
  have := hp.length_le
  rw [ba_len, ba_len] at this
  omega

theorem pre_eq (p s : ByteArray) : pre p s = ((s.extract 0 p.size).toList == p.toList) := by
  unfold pre
  rw [Bool.eq_iff_iff, List.isPrefixOf_iff_prefix, beq_iff_eq, ByteArray.toList_eq, ByteArray.toList_eq]
  have he : (s.extract 0 p.size).data.toList = s.data.toList.take p.size := by rw [Lib.extract_data]; simp
  rw [he, List.prefix_iff_eq_take, ba_len]
  exact ⟨fun h => h.symm, fun h => h.symm⟩

set_option maxHeartbeats 1600000 in
theorem hasPrefix2_any (s p : ByteArray) (w : World) : Calls Try.prog 127 #[.string s, .string p] w fun e w' => e = .returned (.bool (pre p s)) ∧ w' = w := by
  by_cases h : p.size ≤ s.size
  · have h1 : (p.size : Int) ≤ (s.size : Int) := by omega
    have HP := hid (pre_eq p s)
    go_enter Try.func127, Try.ntmps127
    go_wp2_with fail
    go_ret
    exact ⟨by rw [HP.out]; rfl, rfl⟩
  · have h1 : ¬ (p.size : Int) ≤ (s.size : Int) := by omega
    have HP := hid (pre_long h)
    go_enter Try.func127, Try.ntmps127
    go_wp2_with fail
    go_ret
    exact ⟨by rw [HP.out]; rfl, rfl⟩

set_option maxHeartbeats 1600000 in
theorem hasPrefix_any (s p : ByteArray) (w : World) : Calls Try.prog 115 #[.string s, .string p] w fun e w' => e = .returned (.bool (pre p s)) ∧ w' = w := by
  go_enter Try.func115, Try.ntmps115
  go_wp2_with fail
  refine (hasPrefix2_any s p _).mono ?_
  rintro e w1 ⟨rfl, rfl⟩
  go_wp2_with fail
  go_ret
  exact ⟨rfl, rfl⟩

/-- What is left of s behind p. -/
def cutP (p s : ByteArray) : ByteArray := if pre p s then s.extract p.size s.size else s

theorem pre_size {p s : ByteArray} (h : pre p s = true) : p.size ≤ s.size := by
  unfold pre at h
  rw [List.isPrefixOf_iff_prefix] at h
  have := h.length_le
  rw [ba_len, ba_len] at this
  exact this

theorem cutP_list {p s : ByteArray} (h : pre p s = true) : (cutP p s).data.toList = s.data.toList.drop p.size := by
  unfold cutP
  rw [if_pos h, Lib.extract_to_end]

set_option maxHeartbeats 1600000 in
theorem cutPrefix2_any (s p : ByteArray) (w : World) : Calls Try.prog 131 #[.string s, .string p] w fun e w' => e = .returned (.tuple #[.string (cutP p s), .bool (pre p s)]) ∧ w' = w := by
  have HC := hid (fun w => hasPrefix2_any s p w)
  go_enter Try.func131, Try.ntmps131
  go_wp2_with fail
  refine (HC.out _).mono ?_
  rintro e w1 ⟨rfl, rfl⟩
  have HCC : Hid (cutP p s = if pre p s then s.extract p.size s.size else s) := rfl
  cases hp : pre p s with
  | true =>
    have h1 := pre_size hp
    have h2 : (p.size : Int) ≤ (s.size : Int) := by omega
    have h3 : (0 : Int) ≤ (p.size : Int) := by omega
    rw [hp, if_pos rfl] at HCC
    have HPP := hid hp
    clear hp
    go_wp2_with fail
    exact bodyPost_ret (v := .tuple #[.string (s.extract p.size s.size), .bool true]) (by simp [results, Try.results131, go_sem]) rfl ⟨by rw [HCC.out, HPP.out], rfl⟩
  | false =>
    rw [hp, if_neg (by decide)] at HCC
    have HPP := hid hp
    clear hp
    go_wp2_with fail
    exact bodyPost_ret (v := .tuple #[.string s, .bool false]) (by simp [results, Try.results131, go_sem]) rfl ⟨by rw [HCC.out, HPP.out], rfl⟩

set_option maxHeartbeats 1600000 in
theorem cutPrefix_any (s p : ByteArray) (w : World) : Calls Try.prog 121 #[.string s, .string p] w fun e w' => e = .returned (.tuple #[.string (cutP p s), .bool (pre p s)]) ∧ w' = w := by
  go_enter Try.func121, Try.ntmps121
  go_wp2_with fail
  refine (cutPrefix2_any s p _).mono ?_
  rintro e w1 ⟨rfl, rfl⟩
  go_wp2_with fail
  exact bodyPost_ret (v := .tuple #[.string (cutP p s), .bool (pre p s)]) (by simp [results, Try.results121, go_sem]) rfl ⟨rfl, rfl⟩
end Go.Proofs.Ytbmohenjphmlgaa
