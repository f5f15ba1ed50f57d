/- Part 9 of a proof: what the last text needs. -/
import Derived.Test.YtbmohenjphmlgaaPart7
import Derived.Test.YtbmohenjphmlgaaPart8
import Derived.Test.YtbmohenjphmlgaaPart6
/- The document's own Decode answers as the program's does. -/
namespace Go.Proofs.Ytbmohenjphmlgaa
open Go.RowKit
set_option maxRecDepth 100000
section
variable (f : Nat) (s : ByteArray) (w : World)

theorem ext_one (s : ByteArray) : (s.extract 1 s.size).data.toList = s.data.toList.drop 1 := Lib.extract_to_end _ _

theorem ext_first (s : ByteArray) (hi : 0 < (s.extract 1 s.size).size) : ((s.data.toList.drop 1).getD 0 0).toNat = ((s.extract 1 s.size)[0]'hi).toNat := by
  rw [← ext_one, ba_getD _ hi]

theorem val_four (l : List UInt8) (k : Nat) (h : k ≤ 4) : Itm.val (l.take k) < 4294967296 := by
  have h1 := Itm.val_lt (l.take k)
  exact Nat.lt_of_lt_of_le h1 (Nat.le_trans (Nat.pow_le_pow_right (by omega) (by rw [List.length_take]; omega : _ ≤ 4)) (by decide))

theorem part_bytes (h2 : s.size ≤ 1000) (hb : s.toList.isEmpty = false) (h1 : 0 < s.size) (hge : 128 ≤ s[0].toNat) (hlt : s[0].toNat < 192) :
    Calls Try.prog 69 #[.string s] w (PartPost (match Itm.cutP 128 s.data.toList with | none => none | some (body, rest) => if Itm.stands body then none else some (⟨false, body, []⟩, rest)) (f + 1) w) := by
  generalize hp : (match Itm.cutP 128 s.data.toList with | none => none | some (body, rest) => if Itm.stands body then none else some ((⟨false, body, []⟩ : Itm), rest)) = p
  have hmany := fun h => cutP_many (base := 128) (s := s.data.toList) (by rw [ba_len]; exact h2) h
  have hp0 := hp
  unfold Itm.cutP at hp
  rw [ba_getD s h1] at hp hmany
  have hl : (s.data.toList.drop 1).length = s.size - 1 := by simp
  have hes : (s.extract 1 s.size).size = s.size - 1 := by simp
  generalize hn : s[0].toNat - 128 = n at hp hmany
  by_cases h3 : n ≤ 55
  · rw [if_pos h3] at hp
    by_cases h4 : n ≤ (s.data.toList.drop 1).length
    · rw [if_pos h4] at hp
      simp only at hp
      rw [hl] at h4
      have hsi : ((s.extract 1 s.size).extract 0 n).data.toList = (s.data.toList.drop 1).take n := by rw [Lib.extract_data, Lib.extract_to_end]; simp
      have hss : ((s.extract 1 s.size).extract 0 n).size = n := by rw [← ba_len, hsi, List.length_take]; omega
      have hst := stands_eq ((s.extract 1 s.size).extract 0 n)
      rw [hsi, hss] at hst
      by_cases h5 : n = 1
      · have hi : 0 < ((s.extract 1 s.size).extract 0 n).size := by omega
        rw [← hsi, ba_getD _ hi, hsi, decide_eq_true h5, Bool.true_and] at hst
        by_cases h6 : (((s.extract 1 s.size).extract 0 n)[0]'hi).toNat < 128
        · rw [hst, decide_eq_true h6] at hp
          simp only [if_true] at hp
          exact part_short128OneNo (f + 1) s w p n h2 hb h1 hge hlt hn h3 h4 (by simp; omega) (by omega) hi (by omega) hp.symm
        · rw [hst, decide_eq_false h6] at hp
          simp only [Bool.false_eq_true, if_false] at hp
          exact part_short128One f s w p n h2 hb h1 hge hlt hn h3 h4 (by simp; omega) (by omega) hi (by omega) hp.symm
      · rw [hst, decide_eq_false h5] at hp
        simp only [Bool.false_and, Bool.false_eq_true, if_false] at hp
        exact part_short128 f s w p n h2 hb h1 hge hlt hn h3 h4 (by omega) hp.symm
    · rw [if_neg h4] at hp
      exact part_shortNo128 (f + 1) s w p n h2 hb h1 hge hlt hn h3 (by omega) hp.symm
  · rw [if_neg h3] at hp
    obtain ⟨k, rfl⟩ : ∃ k, n = k + 55 := ⟨n - 55, by omega⟩
    rw [Nat.add_sub_cancel] at hp hmany
    by_cases h4 : (s.data.toList.drop 1).length < k ∨ ((s.data.toList.drop 1).getD 0 0).toNat = 0
    · rw [if_pos h4] at hp
      simp only at hp
      by_cases h5 : s.size - 1 < k
      · exact part_longA128 (f + 1) s w p k _ h2 hb h1 hge hlt hn rfl (by omega) h5 hp.symm
      · have hi : 0 < (s.extract 1 s.size).size := by omega
        rw [ext_first s hi] at h4
        exact part_longB128 (f + 1) s w p k _ h2 hb h1 hge hlt hn rfl (by omega) (by omega) hi (by simp; omega) hp.symm
    · rw [if_neg h4] at hp
      have hi : 0 < (s.extract 1 s.size).size := by omega
      rw [ext_first s hi] at h4
      have hz : ((((s.extract 1 s.size)[0]'hi).toNat : Int) == 0) = false := by simp; omega
      by_cases h6 : 4 < k
      · rw [hmany h6] at hp0
        exact part_longC128 (f + 1) s w p k _ h2 hb h1 hge hlt hn rfl (by omega) (by omega) hi hz h6 hp0.symm
      · have hl2 : ((s.data.toList.drop 1).drop k).length = s.size - 1 - k := by rw [List.length_drop, hl]
        have hv4 := val_four (s.data.toList.drop 1) k (by omega)
        have hV : Hid (Itm.val ((s.extract 1 s.size).data.toList.take k) = Itm.val ((s.data.toList.drop 1).take k)) := by rw [Hid, ext_one]
        generalize Itm.val ((s.data.toList.drop 1).take k) = V at hV hp hv4
        by_cases h5 : V ≤ 55 ∨ ((s.data.toList.drop 1).drop k).length < V
        · rw [if_pos h5] at hp
          simp only at hp
          by_cases h7 : V ≤ 55
          · exact part_longD128 (f + 1) s w p k _ h2 hb h1 hge hlt hn rfl (by omega) (by omega) hi hz (by omega) V hV h7 hp.symm
          · exact part_longE128 (f + 1) s w p k _ h2 hb h1 hge hlt hn rfl (by omega) (by omega) hi hz (by omega) V hV (by omega) (by omega) hv4 hp.symm
        · rw [if_neg h5] at hp
          simp only at hp
          have hst : Itm.stands (((s.data.toList.drop 1).drop k).take V) = false := by
            unfold Itm.stands
            rw [List.length_take, hl2, decide_eq_false (by omega)]; rfl
          rw [hst] at hp
          simp only [Bool.false_eq_true, if_false] at hp
          exact part_longF128 f s w p k _ h2 hb h1 hge hlt hn rfl (by omega) (by omega) hi hz (by omega) V hV (by omega) (by omega) hp.symm

theorem part_lists (h2 : s.size ≤ 1000) (hb : s.toList.isEmpty = false) (h1 : 0 < s.size) (hge : 192 ≤ s[0].toNat) (hf : s.size ≤ f + 1)
    (IH : Hid (∀ r : ByteArray, r.size ≤ f → r.size ≤ 1000 → ∀ w, Calls Try.prog 69 #[.string r] w (PartPost (Itm.parse f r.data.toList) f w))) :
    Calls Try.prog 69 #[.string s] w (PartPost (match Itm.cutP 192 s.data.toList with | none => none | some (body, rest) => match Itm.loopP (Itm.parse f) body.length body with | none => none | some l => some (⟨true, [], l⟩, rest)) (f + 1) w) := by
  generalize hp : (match Itm.cutP 192 s.data.toList with | none => none | some (body, rest) => match Itm.loopP (Itm.parse f) body.length body with | none => none | some l => some ((⟨true, [], l⟩ : Itm), rest)) = p
  have hmany := fun h => cutP_many (base := 192) (s := s.data.toList) (by rw [ba_len]; exact h2) h
  have hp0 := hp
  unfold Itm.cutP at hp
  rw [ba_getD s h1] at hp hmany
  have hl : (s.data.toList.drop 1).length = s.size - 1 := by simp
  have hes : (s.extract 1 s.size).size = s.size - 1 := by simp
  generalize hn : s[0].toNat - 192 = n at hp hmany
  by_cases h3 : n ≤ 55
  · rw [if_pos h3] at hp
    by_cases h4 : n ≤ (s.data.toList.drop 1).length
    · rw [if_pos h4] at hp
      simp only at hp
      rw [hl] at h4
      generalize ho : Itm.loopP (Itm.parse f) ((s.data.toList.drop 1).take n).length ((s.data.toList.drop 1).take n) = o at hp
      refine part_short192 f s w p n h2 hb h1 hge hn h3 h4 hf IH o ho.symm ?_ ?_
      · intro l hl'; subst hl'; exact hp.symm
      · intro hl'; subst hl'; exact hp.symm
    · rw [if_neg h4] at hp
      exact part_shortNo192 (f + 1) s w p n h2 hb h1 hge hn h3 (by omega) hp.symm
  · rw [if_neg h3] at hp
    obtain ⟨k, rfl⟩ : ∃ k, n = k + 55 := ⟨n - 55, by omega⟩
    rw [Nat.add_sub_cancel] at hp hmany
    by_cases h4 : (s.data.toList.drop 1).length < k ∨ ((s.data.toList.drop 1).getD 0 0).toNat = 0
    · rw [if_pos h4] at hp
      simp only at hp
      by_cases h5 : s.size - 1 < k
      · exact part_longA192 (f + 1) s w p k _ h2 hb h1 hge hn rfl (by omega) h5 hp.symm
      · have hi : 0 < (s.extract 1 s.size).size := by omega
        rw [ext_first s hi] at h4
        exact part_longB192 (f + 1) s w p k _ h2 hb h1 hge hn rfl (by omega) (by omega) hi (by simp; omega) hp.symm
    · rw [if_neg h4] at hp
      have hi : 0 < (s.extract 1 s.size).size := by omega
      rw [ext_first s hi] at h4
      have hz : ((((s.extract 1 s.size)[0]'hi).toNat : Int) == 0) = false := by simp; omega
      by_cases h6 : 4 < k
      · rw [hmany h6] at hp0
        exact part_longC192 (f + 1) s w p k _ h2 hb h1 hge hn rfl (by omega) (by omega) hi hz h6 hp0.symm
      · have hl2 : ((s.data.toList.drop 1).drop k).length = s.size - 1 - k := by rw [List.length_drop, hl]
        have hv4 := val_four (s.data.toList.drop 1) k (by omega)
        have hV : Hid (Itm.val ((s.extract 1 s.size).data.toList.take k) = Itm.val ((s.data.toList.drop 1).take k)) := by rw [Hid, ext_one]
        generalize Itm.val ((s.data.toList.drop 1).take k) = V at hV hp hv4
        by_cases h5 : V ≤ 55 ∨ ((s.data.toList.drop 1).drop k).length < V
        · rw [if_pos h5] at hp
          simp only at hp
          by_cases h7 : V ≤ 55
          · exact part_longD192 (f + 1) s w p k _ h2 hb h1 hge hn rfl (by omega) (by omega) hi hz (by omega) V hV h7 hp.symm
          · exact part_longE192 (f + 1) s w p k _ h2 hb h1 hge hn rfl (by omega) (by omega) hi hz (by omega) V hV (by omega) (by omega) hv4 hp.symm
        · rw [if_neg h5] at hp
          simp only at hp
          generalize ho : Itm.loopP (Itm.parse f) (((s.data.toList.drop 1).drop k).take V).length (((s.data.toList.drop 1).drop k).take V) = o at hp
          refine part_longF192 f s w p k _ h2 hb h1 hge hn rfl (by omega) (by omega) hi hz (by omega) V hV (by omega) (by omega) hf IH o ho.symm ?_ ?_
          · intro l hl'; subst hl'; exact hp.symm
          · intro hl'; subst hl'; exact hp.symm
end

/-- 'part' does what 'parse' says, of at most 1000 bytes. -/
theorem part_any : ∀ (f : Nat) (s : ByteArray) (w : World), s.size ≤ f → s.size ≤ 1000 → Calls Try.prog 69 #[.string s] w (PartPost (Itm.parse f s.data.toList) f w) := by
  intro f
  induction f with
  | zero =>
    intro s w h0 _
    rw [Itm.parse_zero]
    exact part_empty 0 s w none (by rw [toList_isEmpty, ba_empty s (by omega)]; rfl) rfl
  | succ f ih =>
    intro s w hf h2
    rw [Itm.parse_succ]
    unfold Itm.stepP
    by_cases h0 : s.data.toList.isEmpty
    · rw [if_pos h0]
      exact part_empty (f + 1) s w none (by rw [toList_isEmpty]; exact h0) rfl
    · rw [if_neg h0]
      have hb : s.toList.isEmpty = false := by rw [toList_isEmpty]; simpa using h0
      have h1 : 0 < s.size := by
        rcases Nat.eq_zero_or_pos s.size with hz | hz
        · rw [ba_empty s hz] at h0; simp at h0
        · exact hz
      rw [ba_getD s h1]
      by_cases h3 : s[0].toNat < 128
      · rw [if_pos h3]
        have h2' : s.size ≤ 1000000 := Nat.le_trans h2 (by decide)
        exact part_byte f s w _ h2' hb h1 h3 rfl
      · rw [if_neg h3]
        by_cases h4 : s[0].toNat < 192
        · rw [if_pos h4]
          have h5 : 128 ≤ s[0].toNat := Nat.le_of_not_lt h3
          exact part_bytes f s w h2 hb h1 h5 h4
        · rw [if_neg h4]
          have h5 : 192 ≤ s[0].toNat := Nat.le_of_not_lt h4
          exact part_lists f s w h2 hb h1 h5 hf (fun r h h' w => ih r w h h')

/-- What 'whole' answers. -/
def WholePost (p : Option (Itm × List UInt8)) (n : Nat) (w : World) (e : Ending) (w' : World) : Prop :=
  (∀ t, p = some (t, []) → ∃ v, e = .returned (.tuple #[v, .bool true]) ∧ Ow w' n w.heap.size w'.heap.size v t) ∧
  ((∀ t, p ≠ some (t, [])) → e = .returned (.tuple #[.agg #[.bool false, .string ⟨#[]⟩, .slice none 0 0], .bool false])) ∧ Below w.heap.size w w'

set_option maxHeartbeats 800000 in
theorem whole_any (s : ByteArray) (w : World) (h : s.size ≤ 1000) : Calls Try.prog 46 #[.string s] w (WholePost (Itm.parse s.size s.data.toList) s.size w) := by
  have HC := hid (fun w => part_any s.size s w (Nat.le_refl _) h)
  generalize Itm.parse s.size s.data.toList = p at *
  go_enter Try.func46, Try.ntmps46
  go_wp2_with fail
  refine (HC.out _).mono ?_
  rintro e w1 ⟨hno, hyes, hbel⟩
  obtain ⟨hcc, hff⟩ := bcell hbel
  have hsz : w.heap.size < w1.heap.size := by have := hbel.size; simp at this; omega
  cases p with
  | none =>
    obtain rfl := hno rfl
    clear hno hyes
    go_wp2_with fail
    obtain ⟨c0, c1, c2⟩ := set3 (old_block hbel) (.bool false) (.string ⟨#[]⟩) (.slice none 0 0)
    exact bodyPost_ret (v := .tuple #[.agg #[.bool false, .string ⟨#[]⟩, .slice none 0 0], .bool false]) (by simp [results, Try.results46, go_sem, c0, c1, c2, hsz]) rfl ⟨fun t ht => (by cases ht), fun _ => rfl, (box_below hbel _ _ _).alloc (by rw [box_size]; omega) _⟩
  | some tr =>
    obtain ⟨t, rest⟩ := tr
    obtain ⟨v, rfl, hown⟩ := hyes t rest rfl
    obtain ⟨a2, cap2, rfl⟩ := ow_shape hown
    have HO := hid hown
    clear hno hyes hown
    by_cases hr : rest = []
    · subst hr
      go_wp2_with fail
      obtain ⟨c0, c1, c2⟩ := set3 (old_block hbel) (.bool t.list) (.string ⟨t.bytes.toArray⟩) (.slice a2 t.items.length cap2)
      refine bodyPost_ret (v := .tuple #[.agg #[.bool t.list, .string ⟨t.bytes.toArray⟩, .slice a2 t.items.length cap2], .bool true]) (by simp [results, Try.results46, go_sem, c0, c1, c2, hsz]) rfl ⟨fun t' ht' => ?_, fun hn => absurd rfl (hn t), (box_below hbel _ _ _).alloc (by rw [box_size]; omega) _⟩
      cases ht'
      refine ⟨_, rfl, ?_⟩
      have h0 := HO.out
      refine own_widen (lo := w.heap.size + 1) (hi := w1.heap.size) ?_ (Nat.le_succ _) (by simp [World.setCell])
      refine own_frame _ _ _ _ _ (fun k _ hk => Below.heap_alloc _ _ _ (by rw [box_size]; exact hk)) (ow_box _ _ _ (by simpa using h0))
    · have hre : rest.isEmpty = false := by simpa using hr
      go_wp2_with fail
      obtain ⟨c0, c1, c2⟩ := set3 (old_block hbel) (.bool false) (.string ⟨#[]⟩) (.slice none 0 0)
      exact bodyPost_ret (v := .tuple #[.agg #[.bool false, .string ⟨#[]⟩, .slice none 0 0], .bool false]) (by simp [results, Try.results46, go_sem, c0, c1, c2, hsz]) rfl ⟨fun t' ht => absurd (by cases ht; rfl) hr, fun _ => rfl, (box_below hbel _ _ _).alloc (by rw [box_size]; omega) _⟩

/-- What 'parse' says, and what Decode answers then. -/
theorem dec_cases (s : ByteArray) (h : s.size ≤ 1000) :
    ((∀ t, Itm.parse s.size s.data.toList ≠ some (t, [])) ∧ Itm.dec s.data.toList = .error 1) ∨
    ∃ t, Itm.parse s.size s.data.toList = some (t, []) ∧ Itm.pure t = true ∧ Itm.deep t ≤ 1000 ∧ (8 < Itm.deep t ∧ Itm.dec s.data.toList = .error 2 ∨ Itm.deep t ≤ 8 ∧ Itm.dec s.data.toList = .ok t) := by
  unfold Itm.dec
  rw [if_neg (by rw [ba_len]; omega), ba_len]
  cases hp : Itm.parse s.size s.data.toList with
  | none => exact .inl ⟨fun t h => (by cases h), rfl⟩
  | some tr =>
    obtain ⟨t, rest⟩ := tr
    by_cases hr : rest = []
    · subst hr
      refine .inr ⟨t, rfl, (Itm.parse_sound _ _ _ _ hp).2, ?_, ?_⟩
      · have h1 := Itm.deep_le_enc t
        have h2 := (Itm.parse_sound _ _ _ _ hp).1
        have h3 : s.size = (Itm.enc t).length := by rw [← ba_len, h2]; simp
        omega
      · by_cases h8 : 8 < Itm.deep t
        · exact .inl ⟨h8, by simp [h8]⟩
        · exact .inr ⟨by omega, by simp [h8]⟩
    · exact .inl ⟨fun t' h => hr (by cases h; rfl), by simp [hr]⟩

set_option maxHeartbeats 800000 in
theorem decodeR_big (s : ByteArray) (w : World) (h : 1000 < s.size) : Calls Try.prog 18 #[.string s] w (DecodeOk s w) := by
  have HD : Hid (Itm.dec s.data.toList = .error 2) := by unfold Hid Itm.dec; rw [if_pos (by rw [ba_len]; exact h)]
  go_enter Try.func18, Try.ntmps18
  go_wp2_with fail
  exact bodyPost_ret (v := .tuple #[.agg #[.bool false, .string ⟨#[]⟩, .slice none 0 0], .int .i64 2]) (by simp [results, Try.results18, go_sem]) rfl (decodeOk_err HD.out ((Below.refl _ _).alloc (Nat.le_refl _) _))

set_option maxHeartbeats 800000 in
theorem decodeR_none (s : ByteArray) (w : World) (h : s.size ≤ 1000) (hno : ∀ t, Itm.parse s.size s.data.toList ≠ some (t, [])) (hd : Itm.dec s.data.toList = .error 1) : Calls Try.prog 18 #[.string s] w (DecodeOk s w) := by
  have HC := hid (fun w => whole_any s w h)
  have HD := hid hd
  have HP := hid hno
  clear hd hno
  go_enter Try.func18, Try.ntmps18
  go_wp2_with fail
  refine (HC.out _).mono ?_
  rintro e w1 ⟨_, hn, hbel⟩
  obtain rfl := hn HP.out
  obtain ⟨hcc, hff⟩ := bcell hbel
  have hsz : w.heap.size < w1.heap.size := by have := hbel.size; simp at this; omega
  clear hn
  go_wp2_with fail
  obtain ⟨c0, c1, c2⟩ := set3 (old_block hbel) (.bool false) (.string ⟨#[]⟩) (.slice none 0 0)
  exact bodyPost_ret (v := .tuple #[.agg #[.bool false, .string ⟨#[]⟩, .slice none 0 0], .int .i64 1]) (by simp [results, Try.results18, go_sem, c0, c1, c2, hsz]) rfl (decodeOk_err HD.out ((box_below hbel _ _ _).alloc (by rw [box_size]; omega) _))

set_option maxHeartbeats 800000 in
theorem decodeR_deep (s : ByteArray) (w : World) (h : s.size ≤ 1000) (t : Itm) (hp : Itm.parse s.size s.data.toList = some (t, [])) (hpu : Itm.pure t = true) (hdl : Itm.deep t ≤ 1000) (hd8 : 8 < Itm.deep t) (hd : Itm.dec s.data.toList = .error 2) : Calls Try.prog 18 #[.string s] w (DecodeOk s w) := by
  have HC := hid (fun w => whole_any s w h)
  have HD := hid hd
  have HP := hid hp
  have HPU := hid hpu
  clear hd hp hpu
  go_enter Try.func18, Try.ntmps18
  go_wp2_with fail
  refine (HC.out _).mono ?_
  rintro e w1 ⟨hy, _, hbel⟩
  obtain ⟨v, rfl, hown⟩ := hy t HP.out
  have hrep := rep_of_own _ _ _ _ _ (Nat.le_refl _) hown
  obtain ⟨a2, cap2, rfl⟩ := ow_shape hown
  have HR := hid hrep
  clear hy hown hrep
  obtain ⟨hcc, hff⟩ := bcell hbel
  have hsz : w.heap.size < w1.heap.size := by have := hbel.size; simp at this; omega
  go_wp2_with fail
  refine (depthR_any _ _ t _ (rep_in HR.out ((Below.refl _ _).alloc (Nat.le_refl _) _)) HPU.out (by omega)).mono ?_
  rintro e w2 ⟨rfl, hbel2⟩
  obtain ⟨hcc2, hff2⟩ := bcell hbel2
  have hsz1 : w.heap.size < w1.heap.size + 1 := by omega
  go_wp2_with fail
  have hb3 : Below (w.alloc (.cells #[.bool false, .string ⟨#[]⟩, .slice none 0 0] 24)).heap.size (w.alloc (.cells #[.bool false, .string ⟨#[]⟩, .slice none 0 0] 24)) w2 :=
    (hbel.alloc hbel.size _).trans (hbel2.mono (by have := hbel.size; simp at this ⊢; omega))
  obtain ⟨c0, c1, c2⟩ := set3 (old_block hb3) (.bool false) (.string ⟨#[]⟩) (.slice none 0 0)
  exact bodyPost_ret (v := .tuple #[.agg #[.bool false, .string ⟨#[]⟩, .slice none 0 0], .int .i64 2]) (by simp [results, Try.results18, go_sem, c0, c1, c2]) rfl (decodeOk_err HD.out (box_below hb3 _ _ _))

set_option maxHeartbeats 800000 in
theorem decodeR_yes (s : ByteArray) (w : World) (h : s.size ≤ 1000) (t : Itm) (hp : Itm.parse s.size s.data.toList = some (t, [])) (hpu : Itm.pure t = true) (hd8 : Itm.deep t ≤ 8) (hd : Itm.dec s.data.toList = .ok t) : Calls Try.prog 18 #[.string s] w (DecodeOk s w) := by
  have HC := hid (fun w => whole_any s w h)
  have HD := hid hd
  have HP := hid hp
  have HPU := hid hpu
  clear hd hp hpu
  go_enter Try.func18, Try.ntmps18
  go_wp2_with fail
  refine (HC.out _).mono ?_
  rintro e w1 ⟨hy, _, hbel⟩
  obtain ⟨v, rfl, hown⟩ := hy t HP.out
  have hrep := rep_of_own _ _ _ _ _ (Nat.le_refl _) hown
  obtain ⟨a2, cap2, rfl⟩ := ow_shape hown
  have HR := hid hrep
  have HO := hid hown
  clear hy hown hrep
  obtain ⟨hcc, hff⟩ := bcell hbel
  have hsz : w.heap.size < w1.heap.size := by have := hbel.size; simp at this; omega
  go_wp2_with fail
  refine (depthR_any _ _ t _ (rep_in HR.out ((Below.refl _ _).alloc (Nat.le_refl _) _)) HPU.out (by omega)).mono ?_
  rintro e w2 ⟨rfl, hbel2⟩
  obtain ⟨hcc2, hff2⟩ := bcell hbel2
  have hsz1 : w.heap.size < w1.heap.size + 1 := by omega
  go_wp2_with fail
  have hb3 : Below (w.alloc (.cells #[.bool false, .string ⟨#[]⟩, .slice none 0 0] 24)).heap.size (w.alloc (.cells #[.bool false, .string ⟨#[]⟩, .slice none 0 0] 24)) w2 :=
    (hbel.alloc hbel.size _).trans (hbel2.mono (by have := hbel.size; simp at this ⊢; omega))
  obtain ⟨c0, c1, c2⟩ := set3 (old_block hb3) (.bool t.list) (.string ⟨t.bytes.toArray⟩) (.slice a2 t.items.length cap2)
  refine bodyPost_ret (v := .tuple #[.agg #[.bool t.list, .string ⟨t.bytes.toArray⟩, .slice a2 t.items.length cap2], .int .i64 0]) (by simp [results, Try.results18, go_sem, c0, c1, c2]) rfl ⟨fun n hn => ?_, fun t' ht' => ?_, box_below hb3 _ _ _⟩
  · rw [HD.out] at hn; cases hn
  · rw [HD.out] at ht'
    cases ht'
    refine ⟨_, rfl, ?_⟩
    rw [box_size]
    refine own_widen (lo := w.heap.size + 1) (hi := w1.heap.size) (ow_box _ _ _ ?_) (Nat.le_succ _) (by have := hbel2.size; simp at this; omega)
    refine own_frame _ _ _ _ _ ?_ (by have := HO.out; unfold Ow at this; simpa using this)
    intro k _ hk
    rw [hbel2.block k (by simp; omega)]
    exact Below.heap_alloc _ _ _ hk

/-- The document's own Decode answers as the program's does. -/
theorem decodeR_any (s : ByteArray) (w : World) : Calls Try.prog 18 #[.string s] w (DecodeOk s w) := by
  by_cases h : 1000 < s.size
  · exact decodeR_big s w h
  · rcases dec_cases s (by omega) with ⟨h1, h2⟩ | ⟨t, h1, h2, h3, ⟨h4, h5⟩ | ⟨h4, h5⟩⟩
    · exact decodeR_none s w (by omega) h1 h2
    · exact decodeR_deep s w (by omega) t h1 h2 h3 h4 h5
    · exact decodeR_yes s w (by omega) t h1 h2 h4 h5
end Go.Proofs.Ytbmohenjphmlgaa

/- The walks of copiedItem, text and sameItem (of the statements' own). -/
namespace Go.Proofs.Ytbmohenjphmlgaa
open Go.RowKit
set_option maxRecDepth 100000

theorem take_all_items (t : Itm) (k : Nat) (h : k = t.items.length) : t.items.take k = t.items := by subst h; simp

namespace Itm
theorem items_le_cnt (t : Itm) : t.items.length ≤ cnt t := by
  have := cntL_len t.items
  unfold cntL at this
  rw [cnt_eq]; omega

theorem kid_cnt (t : Itm) (k : Nat) (h : k < t.items.length) : cnt t.items[k] < cnt t := by
  have : ∀ (l : List Itm) (x : Itm), x ∈ l → cnt x ≤ (l.map cnt).sum := by
    intro l x hx
    induction l with
    | nil => simp at hx
    | cons y l ih =>
      simp only [List.map_cons, List.sum_cons]
      rcases List.mem_cons.1 hx with rfl | hx
      · omega
      · have := ih hx; omega
  have := this t.items _ (List.getElem_mem h)
  rw [cnt_eq t]; omega
end Itm

/-- Two boxes that were laid, one behind the other. -/
theorem two_boxes {w wr : World} {x0 x1 x2 y0 y1 y2 : Value} {E : TypeId} (hb : Below (w.heap.size + 2) ((w.alloc (.cells #[x0, x1, x2] E)).alloc (.cells #[y0, y1, y2] E)) wr) :
    wr.heap[w.heap.size]? = some (.cells #[x0, x1, x2] E) ∧ wr.heap[w.heap.size + 1]? = some (.cells #[y0, y1, y2] E) := by
  constructor
  · rw [hb.block _ (by omega), Below.heap_alloc _ _ _ (by simp), heap_alloc_new]
  · rw [hb.block _ (by omega)]
    have := heap_alloc_new (w.alloc (.cells #[x0, x1, x2] E)) (.cells #[y0, y1, y2] E)
    simpa using this

set_option maxHeartbeats 1600000 in
theorem copied_any (n : Nat) : ∀ (v : Value) (t : Itm) (w : World), Rep w.heap.size w n v t → Itm.cnt t ≤ 1000000 →
    Calls Try.prog 47 #[v] w fun e w' => ∃ v', e = .returned v' ∧ Ow w' n w.heap.size w'.heap.size v' t ∧ Below w.heap.size w w' := by
  induction n with
  | zero => intro v t w h; exact h.elim
  | succ n ih =>
    intro v t w hrep hcnt
    obtain ⟨a, cap, rfl, hm, hkids⟩ := hrep
    have HK := hid hkids
    have IH := hid ih
    have HCT := hid hcnt
    have hlen : t.items.length ≤ 1000000 := by have := Itm.items_le_cnt t; omega
    clear hkids ih hm hcnt
    go_enter Try.func47, Try.ntmps47
    go_wp2_with fail
    go_loopw [3, 4] (fun l i wr => ∃ k : Nat, k ≤ t.items.length ∧ i = .int .i64 k ∧ Hid (OwL wr n (w.heap.size + 2) wr.heap.size l (t.items.take k) ∧ Below (w.heap.size + 2) ((w.alloc (.cells #[.bool t.list, .string ⟨t.bytes.toArray⟩, .slice a t.items.length cap] 24)).alloc (.cells #[.bool false, .string ⟨#[]⟩, .slice none 0 0] 24)) wr)) (fun _ i _ => t.items.length - (intOf i).toNat)
    case atStart => exact ⟨0, Nat.zero_le _, rfl, ownL_nil _ _ _ _ _, Below.refl _ _⟩
    case round =>
      obtain ⟨k, hk, rfl, HH⟩ := hrel
      obtain ⟨bx, by1⟩ := two_boxes HH.out.2
      have x0 := cell_of_row _ _ 0 _ _ _ bx
      have x1 := cell_of_row _ _ 1 _ _ _ bx
      have x2 := cell_of_row _ _ 2 _ _ _ bx
      have HB0 : Hid (Below w.heap.size w wr) := (((Below.refl _ _).alloc (Nat.le_refl _) _).alloc (by simp) _).trans (HH.out.2.mono (by omega))
      have hwr : w.heap.size + 2 ≤ wr.heap.size := by have := HH.out.2.size; simpa using this
      obtain ⟨a4, cap4, hu⟩ := ownL_len HH.out.1
      rw [List.length_take, Nat.min_eq_left hk] at hu
      subst hu
      by_cases hlt : k < t.items.length
      · obtain ⟨b, off, c0, c1, c2, rfl, hbl, e0, e1, e2, hr⟩ := HK.out k hlt
        obtain ⟨a2, cap2, rfl, rfl, rfl⟩ := rep_shape hr
        have f0 := (HB0.out.cell (p := ⟨b, off + k * 3, none⟩) hbl).trans e0
        have f1 := (HB0.out.cell (p := ⟨b, off + k * 3 + 1, none⟩) hbl).trans e1
        have f2 := (HB0.out.cell (p := ⟨b, off + k * 3 + 2, none⟩) hbl).trans e2
        have HC := hid (IH.out _ t.items[k] wr (rep_in hr HB0.out) (by have := Itm.kid_cnt t k hlt; have := HCT.out; omega))
        have HT : Hid (t.items.take (k + 1) = t.items.take k ++ [t.items[k]]) := List.take_succ_eq_append_getElem hlt
        clear e0 e1 e2 hr bx by1
        go_wp2_with fail
        refine HC.out.mono ?_
        rintro e w1 ⟨v1, rfl, ho1, hb1⟩
        obtain ⟨a5, cap5, rfl⟩ := ow_shape ho1
        have HO1 := hid ho1
        have HB1 := hid hb1
        have H5 : Hid (w.heap.size + 2 ≤ w1.heap.size) := by have := hb1.size; rw [Hid]; omega
        clear ho1 hb1
        have HL := hid HH.out.1
        have hdl : (t.items.take k).length ≤ 1000000 := by rw [List.length_take]; omega
        go_wp2_with (at_builtin; refine wpList_append_one rfl (.tmp 12) (.tmp 19) rfl rfl rfl rfl HL.out HB1.out HO1.out (Nat.le_refl _) hwr (Nat.le_refl _) HB1.out.size H5.out ⟨rfl, rfl, rfl⟩ hdl ?_; intro v' w' hown2 hbel2)
        refine ⟨⟨k + 1, by omega, by go_num, ?_, ?_⟩, by simp [intOf]; omega⟩
        · rw [HT.out]; exact hown2
        · exact HH.out.2.trans ((HB1.out.mono hwr).trans hbel2)
      · have HKE := hid (show k = t.items.length by omega)
        have z0 := cell_of_row _ _ 0 _ _ _ by1
        have z1 := cell_of_row _ _ 1 _ _ _ by1
        have z2 := cell_of_row _ _ 2 _ _ _ by1
        have zf0 := frozen_of_row _ _ 0 _ _ by1
        have zf1 := frozen_of_row _ _ 1 _ _ by1
        have zf2 := frozen_of_row _ _ 2 _ _ by1
        have HBY := hid by1
        clear by1
        go_wp2_with fail
        obtain ⟨c0, c1, c2⟩ := set3 HBY.out (.bool t.list) (.string ⟨t.bytes.toArray⟩) (.slice a4 k cap4)
        refine bodyPost_ret (v := .agg #[.bool t.list, .string ⟨t.bytes.toArray⟩, .slice a4 k cap4]) (by simp [results, Try.results47, go_sem, c0, c1, c2]) rfl ⟨_, rfl, ?_, ?_⟩
        · rw [box_size]
          refine own_widen (lo := w.heap.size + 1 + 1) (ow_box _ _ _ ⟨_, rfl, ?_⟩) (by omega) (Nat.le_refl _)
          have := HH.out.1
          rw [HKE.out, List.take_length] at this
          rw [HKE.out]
          exact this
        · exact ((HB0.out.setCell (p := ⟨w.heap.size + 1, 0, none⟩) (by simp) _).setCell (p := ⟨w.heap.size + 1, 1, none⟩) (by simp) _).setCell (p := ⟨w.heap.size + 1, 2, none⟩) (by simp) _

/-- A mark's text. -/
def markText (q : Nat) : List UInt8 := [63, UInt8.ofNat (q % 256), UInt8.ofNat (q / 256 % 256)]

theorem run_mark (w : World) (q : Nat) : (convert 76 9 (.slice (some ⟨w.heap.size, 0, none⟩) 3 3)).run Try.prog (w.alloc (.cells #[.int .u8 63, .int .u8 ((q : Int) % 256), .int .u8 ((q : Int) / 256 % 256)] 5)) = .ok (.string ⟨(markText q).toArray⟩) (w.alloc (.cells #[.int .u8 63, .int .u8 ((q : Int) % 256), .int .u8 ((q : Int) / 256 % 256)] 5)) := by
  have h := World.ownsRow_lit (base := w.heap.size) (e := 5) (size := 1) w #[.int .u8 63, .int .u8 ((q : Int) % 256), .int .u8 ((q : Int) / 256 % 256)] 3 (Nat.le_refl _) (by unfold maxLen; omega) rfl
  have hb : Bown (w.alloc (.cells #[.int .u8 63, .int .u8 ((q : Int) % 256), .int .u8 ((q : Int) / 256 % 256)] 5)) w.heap.size (.slice (some ⟨w.heap.size, 0, none⟩) 3 3) (markText q) := by
    have e : Lib.byteCells (markText q) = [.int .u8 63, .int .u8 ((q : Int) % 256), .int .u8 ((q : Int) / 256 % 256)] := by
      simp [Lib.byteCells, markText]
    unfold Bown
    rw [e]
    simpa [markText] using h
  exact run_bytes_string (brd_of_bown hb)

set_option maxHeartbeats 400000 in
theorem text_any (q : Nat) (w : World) (hq : q ≤ 1000000000000) : Calls Try.prog 71 #[.int .i64 q] w fun e w' => e = .returned (.string ⟨(markText q).toArray⟩) ∧ Below w.heap.size w w' := by
  have hcv := fun w => run_mark w q
  go_enter Try.func71, Try.ntmps71
  go_wp2_with fail
  go_ret
  exact ⟨rfl, (Below.refl _ _).alloc (Nat.le_refl _) _⟩
set_option maxHeartbeats 1600000 in
theorem sameL_any (n : Nat) : ∀ (v v2 : Value) (t : Itm) (w : World), Rep w.heap.size w n v t → Rep w.heap.size w n v2 t →
    Calls Try.prog 19 #[v, v2] w fun e w' => e = .returned (.bool true) ∧ Below w.heap.size w w' := by
  induction n with
  | zero => intro v v2 t w h; exact h.elim
  | succ n ih =>
    intro v v2 t w hrep hrep2
    obtain ⟨a, cap, rfl, hm, hk1⟩ := hrep
    obtain ⟨a', cap', rfl, _, hk2⟩ := hrep2
    have H1 := hid hk1
    have H2 := hid hk2
    have IH := hid ih
    clear hk1 hk2 ih
    unfold maxLen at hm
    go_enter Try.func19, Try.ntmps19
    go_wp2_with fail
    go_loopw [5] (fun i wr => ∃ k : Nat, k ≤ t.items.length ∧ i = .int .i64 k ∧ Hid (Below (w.heap.size + 2) ((w.alloc (.cells #[.bool t.list, .string ⟨t.bytes.toArray⟩, .slice a t.items.length cap] 24)).alloc (.cells #[.bool t.list, .string ⟨t.bytes.toArray⟩, .slice a' t.items.length cap'] 24)) wr)) (fun i _ => t.items.length - (intOf i).toNat)
    case atStart => exact ⟨0, Nat.zero_le _, rfl, Below.refl _ _⟩
    case round =>
      obtain ⟨k, hk, rfl, HB⟩ := hrel
      have x2 : wr.cell? ⟨w.heap.size, 2, none⟩ = some (.slice a t.items.length cap) := by
        rw [HB.out.cell (p := ⟨w.heap.size, 2, none⟩) (by simp)]; simp
      have y2 : wr.cell? ⟨w.heap.size + 1, 2, none⟩ = some (.slice a' t.items.length cap') := by
        rw [HB.out.cell (p := ⟨w.heap.size + 1, 2, none⟩) (by simp)]; simp
      by_cases hlt : k < t.items.length
      · obtain ⟨b, off, c0, c1, c2, rfl, hbl, e0, e1, e2, hr⟩ := H1.out k hlt
        obtain ⟨b', off', d0, d1, d2, rfl, hbl', g0, g1, g2, hr'⟩ := H2.out k hlt
        obtain ⟨a2, cap2, rfl, rfl, rfl⟩ := rep_shape hr
        obtain ⟨a3, cap3, rfl, rfl, rfl⟩ := rep_shape hr'
        have hB0 : Below w.heap.size w wr := (((Below.refl _ _).alloc (Nat.le_refl _) _).alloc (by simp) _).trans (HB.out.mono (by omega))
        have f0 := (hB0.cell (p := ⟨b, off + k * 3, none⟩) hbl).trans e0
        have f1 := (hB0.cell (p := ⟨b, off + k * 3 + 1, none⟩) hbl).trans e1
        have f2 := (hB0.cell (p := ⟨b, off + k * 3 + 2, none⟩) hbl).trans e2
        have f0' := (hB0.cell (p := ⟨b', off' + k * 3, none⟩) hbl').trans g0
        have f1' := (hB0.cell (p := ⟨b', off' + k * 3 + 1, none⟩) hbl').trans g1
        have f2' := (hB0.cell (p := ⟨b', off' + k * 3 + 2, none⟩) hbl').trans g2
        have HR := hid hr
        have HR' := hid hr'
        have HB0 := hid hB0
        clear e0 e1 e2 g0 g1 g2 hr hr' hB0
        have HC : Hid (Calls Try.prog 19 #[.agg #[.bool t.items[k].list, .string ⟨t.items[k].bytes.toArray⟩, .slice a2 t.items[k].items.length cap2], .agg #[.bool t.items[k].list, .string ⟨t.items[k].bytes.toArray⟩, .slice a3 t.items[k].items.length cap3]] wr.drew fun e w' => e = .returned (.bool true) ∧ Below wr.heap.size wr w') :=
          (IH.out _ _ t.items[k] wr.drew (rep_in HR.out HB0.out.drew) (rep_in HR'.out HB0.out.drew)).mono fun e w' h => ⟨h.1, below_undrew h.2⟩
        go_wp2_with fail
        go_region_with (go_at_call 19; refine HC.out.mono ?_; rintro e w2 ⟨rfl, hbel⟩)
        all_goals (go_wp2_with fail; refine ⟨⟨k + 1, by omega, by go_num, HB.out.trans (hbel.mono (by have := HB.out.size; simp at this; omega))⟩, by simp [intOf]; omega⟩)
      · go_wp2_with fail
        go_ret
        exact ⟨rfl, (((Below.refl _ _).alloc (Nat.le_refl _) _).alloc (by simp) _).trans (HB.out.mono (by omega))⟩

/-- Two items that are the same, whatever levels each was read at. -/
theorem sameL_two (n m : Nat) (v v2 : Value) (t : Itm) (w : World) (h1 : Rep w.heap.size w n v t) (h2 : Rep w.heap.size w m v2 t) :
    Calls Try.prog 19 #[v, v2] w fun e w' => e = .returned (.bool true) ∧ Below w.heap.size w w' := by
  have k1 := rep_lift m h1
  have k2 := rep_lift n h2
  rw [Nat.add_comm] at k2
  exact sameL_any (n + m) v v2 t w k1 k2

end Go.Proofs.Ytbmohenjphmlgaa

/- Items that are handed in: each list in a row of its own with eight marked places behind it; storing an item into a row. -/
namespace Go.Proofs.Ytbmohenjphmlgaa
open Go.RowKit
set_option maxRecDepth 100000

/-- A row with its k-th three cells written. -/
def put3 (xs : List Value) (k : Nat) (a b c : Value) : List Value := ((xs.set (k * 3) a).set (k * 3 + 1) b).set (k * 3 + 2) c

theorem put3_len (xs : List Value) (k : Nat) (a b c : Value) : (put3 xs k a b c).length = xs.length := by simp [put3]

theorem tri_put_same (xs : List Value) (k : Nat) (a b c : Value) (h : k * 3 + 2 < xs.length) : tri (put3 xs k a b c) k = .agg #[a, b, c] := by
  unfold tri put3
  simp only [List.getD_eq_getElem?_getD]
  have e : 3 * k = k * 3 := Nat.mul_comm 3 k
  rw [e]
  simp only [List.getElem?_set, List.length_set]
  have l0 : k * 3 < xs.length := by omega
  have l1 : k * 3 + 1 < xs.length := by omega
  simp [l0, l1, h]

theorem tri_put_other (xs : List Value) (k i : Nat) (a b c : Value) (h : i ≠ k) : tri (put3 xs k a b c) i = tri xs i := by
  unfold tri put3
  simp only [List.getD_eq_getElem?_getD, List.getElem?_set]
  repeat rw [if_neg (by omega)]

theorem row_put {w : World} {g k : Nat} {xs : List Value} {E : TypeId} (h : w.heap[g]? = some (.cells xs.toArray E (0, 0))) (a b c : Value) :
    (((w.setCell ⟨g, k * 3, none⟩ a).setCell ⟨g, k * 3 + 1, none⟩ b).setCell ⟨g, k * 3 + 2, none⟩ c).heap[g]? = some (.cells (put3 xs k a b c).toArray E (0, 0)) := by
  have h1 := heap_setCell_same w g (k * 3) xs.toArray E a h
  have h2 := heap_setCell_same _ g (k * 3 + 1) _ E b h1
  have h3 := heap_setCell_same _ g (k * 3 + 2) _ E c h2
  rw [h3]
  simp [put3]

theorem put_other {w1 : World} {g k j : Nat} (h : k ≠ g) (a b c : Value) :
    (((w1.setCell ⟨g, j * 3, none⟩ a).setCell ⟨g, j * 3 + 1, none⟩ b).setCell ⟨g, j * 3 + 2, none⟩ c).heap[k]? = w1.heap[k]? := by
  rw [setCell_block _ _ _ _ h, setCell_block _ _ _ _ h, setCell_block _ _ _ _ h]

theorem put_size (w1 : World) (g j : Nat) (a b c : Value) :
    (((w1.setCell ⟨g, j * 3, none⟩ a).setCell ⟨g, j * 3 + 1, none⟩ b).setCell ⟨g, j * 3 + 2, none⟩ c).heap.size = w1.heap.size := by simp [World.setCell]

theorem put_below {B : Nat} {w w1 : World} (hb : Below B w w1) {g j : Nat} (hg : B ≤ g) (a b c : Value) :
    Below B w (((w1.setCell ⟨g, j * 3, none⟩ a).setCell ⟨g, j * 3 + 1, none⟩ b).setCell ⟨g, j * 3 + 2, none⟩ c) :=
  ((hb.setCell (p := ⟨g, j * 3, none⟩) hg a).setCell (p := ⟨g, j * 3 + 1, none⟩) hg b).setCell (p := ⟨g, j * 3 + 2, none⟩) hg c

theorem row_cell {w : World} {g : Nat} {xs : List Value} {E : TypeId} (h : w.heap[g]? = some (.cells xs.toArray E (0, 0))) (j : Nat) (hj : j < xs.length) : w.cell? ⟨g, j, none⟩ = some (xs.getD j default) := by
  rw [cell_of_row _ _ j _ _ _ h, List.getD_eq_getElem?_getD]
  simp [hj]

theorem row_frozen {w : World} {g : Nat} {xs : List Value} {E : TypeId} (h : w.heap[g]? = some (.cells xs.toArray E (0, 0))) (j : Nat) : w.frozen? ⟨g, j, none⟩ = false := frozen_of_row w g j _ E h

/-- The mark of spare room. -/
def bang : Value := .agg #[.bool false, .string ⟨#[33]⟩, .slice none 0 0]

/-- An item in lists of its own, each with eight marked places behind it. -/
def Hand (E : TypeId) (w : World) : Nat → Nat → Nat → Value → Itm → Prop
  | 0 => fun _ _ _ _ => False
  | n + 1 => fun lo hi v t => ∃ (g : Nat) (xs : List Value) (L H : Nat → Nat),
      v = .agg #[.bool t.list, .string ⟨t.bytes.toArray⟩, .slice (some ⟨g, 0, none⟩) t.items.length (t.items.length + 8)] ∧ lo ≤ g ∧ g < hi ∧
      w.heap[g]? = some (.cells xs.toArray E (0, 0)) ∧ xs.length = (t.items.length + 8) * 3 ∧
      (∀ i (h : i < t.items.length), lo ≤ L i ∧ H i ≤ hi ∧ (g < L i ∨ H i ≤ g) ∧ Hand E w n (L i) (H i) (tri xs i) t.items[i]) ∧
      (∀ i j, i < j → j < t.items.length → H i ≤ L j) ∧ (∀ i, t.items.length ≤ i → i < t.items.length + 8 → tri xs i = bang)

theorem hand_frame {E : TypeId} {w w' : World} : ∀ (n lo hi : Nat) (v : Value) (t : Itm), (∀ k, lo ≤ k → k < hi → w'.heap[k]? = w.heap[k]?) → Hand E w n lo hi v t → Hand E w' n lo hi v t := by
  intro n
  induction n with
  | zero => intro lo hi v t _ h; exact h
  | succ n ih =>
    intro lo hi v t hk h
    obtain ⟨g, xs, L, H, hv, h1, h2, h3, h4, h5, h6, h7⟩ := h
    refine ⟨g, xs, L, H, hv, h1, h2, by rw [hk g h1 h2]; exact h3, h4, fun i hi' => ?_, h6, h7⟩
    obtain ⟨q1, q2, q3, q4⟩ := h5 i hi'
    exact ⟨q1, q2, q3, ih _ _ _ _ (fun k a b => hk k (by omega) (by omega)) q4⟩

theorem hand_widen {E : TypeId} {w : World} {n lo hi lo' hi' : Nat} {v : Value} {t : Itm} (h : Hand E w n lo hi v t) (a : lo' ≤ lo) (b : hi ≤ hi') : Hand E w n lo' hi' v t := by
  cases n with
  | zero => exact h
  | succ n =>
    obtain ⟨g, xs, L, H, hv, h1, h2, h3, h4, h5, h6, h7⟩ := h
    refine ⟨g, xs, L, H, hv, by omega, by omega, h3, h4, fun i hi' => ?_, h6, h7⟩
    obtain ⟨q1, q2, q3, q4⟩ := h5 i hi'
    exact ⟨by omega, by omega, q3, q4⟩

theorem hand_shape {E : TypeId} {w : World} {n lo hi : Nat} {v : Value} {t : Itm} (h : Hand E w n lo hi v t) : ∃ g, v = .agg #[.bool t.list, .string ⟨t.bytes.toArray⟩, .slice (some ⟨g, 0, none⟩) t.items.length (t.items.length + 8)] := by
  cases n with
  | zero => exact h.elim
  | succ n => obtain ⟨g, xs, L, H, hv, _⟩ := h; exact ⟨g, hv⟩

theorem rep_of_hand {E : TypeId} {w : World} {B : Nat} : ∀ (n lo hi : Nat) (v : Value) (t : Itm), hi ≤ B → Itm.wt t ≤ 1000000000 → Hand E w n lo hi v t → Rep B w n v t := by
  intro n
  induction n with
  | zero => intro lo hi v t _ _ h; exact h
  | succ n ih =>
    intro lo hi v t hB hw h
    obtain ⟨g, xs, L, H, hv, h1, h2, h3, h4, h5, h6, h7⟩ := h
    have hlen : t.items.length ≤ maxLen := by
      have a := Itm.cntL_len t.items
      have b := Itm.cnt_le_wt t
      rw [Itm.cnt_eq] at b
      unfold Itm.cntL at a
      unfold maxLen
      omega
    refine ⟨some ⟨g, 0, none⟩, _, hv, hlen, fun i hi' => ?_⟩
    obtain ⟨q1, q2, q3, q4⟩ := h5 i hi'
    have c0 := row_cell h3 (3 * i) (by omega)
    have c1 := row_cell h3 (3 * i + 1) (by omega)
    have c2 := row_cell h3 (3 * i + 2) (by omega)
    have e : 0 + i * 3 = 3 * i := by omega
    refine ⟨g, 0, _, _, _, rfl, by omega, by rw [e]; exact c0, by rw [e]; exact c1, by rw [e]; exact c2, ih _ _ _ _ (by omega) ?_ q4⟩
    have := Itm.kid_wt t i hi'
    omega

end Go.Proofs.Ytbmohenjphmlgaa
