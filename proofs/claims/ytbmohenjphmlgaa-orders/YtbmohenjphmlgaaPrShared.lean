/- The walk of sharedStart (of the program). -/
import Derived.Test.YtbmohenjphmlgaaPrPairs
namespace Go.Proofs.Ytbmohenjphmlgaa
open Go.RowKit
set_option maxRecDepth 100000

def toEnt (p : ByteArray × ByteArray) : Tr.Ent := ⟨p.1.data.toList, p.2.data.toList⟩
def ents (l : List (ByteArray × ByteArray)) : List Tr.Ent := l.map toEnt

theorem behindB_ents (p : ByteArray) (l : List (ByteArray × ByteArray)) : ents (behindB p l) = Tr.behind p.data.toList (ents l) := by
  unfold ents behindB Tr.behind
  induction l with
  | nil => rfl
  | cons x l ih =>
    rw [List.filterMap_cons, List.map_cons, List.filterMap_cons]
    by_cases hp : pre p x.1
    · rw [if_pos hp]
      have hp' : p.data.toList.isPrefixOf (toEnt x).dig = true := hp
      rw [if_pos hp', List.map_cons, ih]
      congr 1
      unfold toEnt
      rw [cutP_list hp, ba_len]
    · rw [if_neg hp]
      have hp' : ¬ p.data.toList.isPrefixOf (toEnt x).dig = true := hp
      rw [if_neg hp']
      exact ih

theorem shrink_end {t d t0 : List UInt8} (h1 : t <+: t0) (h2 : Tr.lcp t0 d <+: t) (h3 : t <+: d) : t = Tr.lcp t0 d :=
  List.IsPrefix.eq_of_length_le (Tr.lcp_most _ _ _ h1 h3) h2.length_le

theorem shrink_step {t d t0 : List UInt8} (h1 : t <+: t0) (h2 : Tr.lcp t0 d <+: t) (h3 : ¬ t <+: d) : 0 < t.length ∧ t.take (t.length - 1) <+: t0 ∧ Tr.lcp t0 d <+: t.take (t.length - 1) := by
  have hne : Tr.lcp t0 d ≠ t := fun h => h3 (h ▸ Tr.lcp_right _ _)
  have hlt : (Tr.lcp t0 d).length < t.length := by
    rcases Nat.lt_or_ge (Tr.lcp t0 d).length t.length with h | h
    · exact h
    · exact absurd (List.IsPrefix.eq_of_length_le h2 h) hne
  refine ⟨by omega, (List.take_prefix _ _).trans h1, ?_⟩
  rw [List.prefix_take_iff]
  exact ⟨h2, by omega⟩

theorem take_ents (l : List (ByteArray × ByteArray)) (k : Nat) (h : k < l.length) (s : List UInt8) : Tr.sharedFrom s (ents (l.take (k + 1))) = Tr.lcp (Tr.sharedFrom s (ents (l.take k))) l[k].1.data.toList := by
  unfold ents Tr.sharedFrom
  rw [List.take_succ_eq_append_getElem h, List.map_append, List.foldl_append]
  rfl

set_option maxHeartbeats 1600000 in
theorem sharedStart_any (a : Option Addr) (cap : Nat) (l : List (ByteArray × ByteArray)) (w : World) (hr : PRd w.heap.size w a l) (hl : l.length ≤ 1000000) (h0 : 0 < l.length) (hz : ∀ x ∈ l, x.1.size ≤ 1000000) : Calls Try.prog 97 #[.slice a l.length cap] w fun e w' => ∃ t : ByteArray, e = .returned (.string t) ∧ t.data.toList = Tr.shared (ents l) ∧ Below w.heap.size w w' := by
  have HR := hid hr
  have HC := hid (fun s p w => hasPrefix_any s p w)
  obtain ⟨b0, off0, rfl, hb0, c0, c1⟩ := hr 0 h0
  rw [Nat.zero_mul, Nat.add_zero] at c0
  have HS : Hid (Tr.shared (ents l) = Tr.sharedFrom l[0].1.data.toList (ents l)) := by
    cases l with
    | nil => simp at h0
    | cons x l => rfl
  have HZ := hid hz
  clear hr c1 hz
  have hint : (0 : Int) < (l.length : Int) := by omega
  go_enter Try.func97, Try.ntmps97
  go_wp2_with fail
  go_loopw [3, 12] (fun v i wr => ∃ (k : Nat) (t : ByteArray), v = .string t ∧ i = .int .i64 k ∧ k ≤ l.length ∧ Hid (t.data.toList = Tr.sharedFrom l[0].1.data.toList (ents (l.take k)) ∧ t.size ≤ 1000000 ∧ Below w.heap.size w wr)) (fun _ i _ => l.length - (intOf i).toNat)
  case atStart => exact ⟨0, l[0].1, rfl, rfl, Nat.zero_le _, rfl, HZ.out _ (List.getElem_mem h0), Below.refl _ _⟩
  case round =>
    obtain ⟨k, t0, rfl, rfl, hk, HH⟩ := hrel
    by_cases hlt : k < l.length
    · obtain ⟨b, off, hbo, hb, e0, e1⟩ := HR.out k hlt
      simp only [Option.some.injEq, Addr.mk.injEq, and_true] at hbo
      obtain ⟨rfl, rfl⟩ := hbo
      have f0 := (HH.out.2.2.cell (p := ⟨b0, off0 + k * 2, none⟩) hb).trans e0
      have f1 := (HH.out.2.2.cell (p := ⟨b0, off0 + k * 2 + 1, none⟩) hb).trans e1
      have i1 : (0 : Int) ≤ (k : Int) := by omega
      have i2 : (k : Int) < (l.length : Int) := by omega
      have HT := hid (take_ents l k hlt l[0].1.data.toList)
      clear e0 e1 c0
      go_wp2_with fail
      go_loopw [3] (fun v wx => ∃ t : ByteArray, v = .string t ∧ t.size ≤ 1000000 ∧ Hid (t.data.toList <+: t0.data.toList ∧ Tr.lcp t0.data.toList l[k].1.data.toList <+: t.data.toList) ∧ wx = wr.alloc (.cells #[.string l[k].1, .string l[k].2] 133)) (fun v _ => strLen v)
      case atStart => exact ⟨t0, rfl, HH.out.2.1, ⟨List.prefix_refl _, Tr.lcp_left _ _⟩, rfl⟩
      case round =>
        obtain ⟨t, rfl, hts, HP, rfl⟩ := hrel
        go_wp2_with fail
        refine (HC.out _ _ _).mono ?_
        rintro e w1 ⟨rfl, rfl⟩
        cases hp : pre t l[k].1 with
        | true =>
          have HE : Hid (t.data.toList = Tr.lcp t0.data.toList l[k].1.data.toList) := shrink_end HP.out.1 HP.out.2 (by unfold pre at hp; exact List.isPrefixOf_iff_prefix.1 hp)
          clear hp
          go_wp2_with fail
          exact ⟨⟨k + 1, t, rfl, by go_num, by omega, by rw [HT.out, ← HH.out.1]; exact HE.out, hts, HH.out.2.2.alloc HH.out.2.2.size _⟩, by simp [intOf]; omega⟩
        | false =>
          have HE := hid (shrink_step HP.out.1 HP.out.2 (by unfold pre at hp; rw [← List.isPrefixOf_iff_prefix, hp]; decide))
          have hpos : 0 < t.size := by have := HE.out.1; rwa [ba_len] at this
          have j1 : (0 : Int) ≤ (t.size : Int) - 1 := by omega
          have j2 : (t.size : Int) - 1 ≤ (t.size : Int) := by omega
          clear hp
          go_wp2_with fail
          refine ⟨⟨_, rfl, ?_, ?_, trivial⟩, ?_⟩
          · rw [ByteArray.size_extract]; omega
          · rw [Hid, Lib.extract_data, List.drop_zero, Nat.sub_zero]
            have := HE.out.2
            rw [ba_len] at this
            exact this
          · show (t.extract 0 (t.size - 1)).size < t.size
            rw [ByteArray.size_extract]; omega
    · have i2 : ¬ (k : Int) < (l.length : Int) := by omega
      have HK : Hid (Tr.sharedFrom l[0].1.data.toList (ents (l.take k)) = Tr.sharedFrom l[0].1.data.toList (ents l)) := by rw [Hid, List.take_of_length_le (by omega)]
      go_wp2_with fail
      go_ret
      exact ⟨t0, rfl, by rw [HH.out.1, HK.out, HS.out], HH.out.2.2⟩
end Go.Proofs.Ytbmohenjphmlgaa
