/- The document's own Decode answers as the program's does. -/
import Derived.Test.YtplfjengfhijhaaRefPart2
import Derived.Test.YtplfjengfhijhaaRefEnc
namespace Go.Proofs.Ytplfjengfhijhaa
open Go.RowKit
section
variable (f : Nat) (s : ByteArray) (w : World)

theorem ext_one (s : ByteArray) : (s.extract 1 s.size).data.toList = s.data.toList.drop 1 := Lib.extract_to_end _ _

theorem ext_first (s : ByteArray) (hi : 0 < (s.extract 1 s.size).size) : ((s.data.toList.drop 1).getD 0 0).toNat = ((s.extract 1 s.size)[0]'hi).toNat := by
  rw [← ext_one, ba_getD _ hi]

theorem val_four (l : List UInt8) (k : Nat) (h : k ≤ 4) : Itm.val (l.take k) < 4294967296 := by
  have h1 := Itm.val_lt (l.take k)
  exact Nat.lt_of_lt_of_le h1 (Nat.le_trans (Nat.pow_le_pow_right (by omega) (by rw [List.length_take]; omega : _ ≤ 4)) (by decide))

theorem part_bytes (h2 : s.size ≤ 1000) (hb : s.toList.isEmpty = false) (h1 : 0 < s.size) (hge : 128 ≤ s[0].toNat) (hlt : s[0].toNat < 192) :
    Calls Try.prog 37 #[.string s] w (PartPost (match Itm.cutP 128 s.data.toList with | none => none | some (body, rest) => if Itm.stands body then none else some (⟨false, body, []⟩, rest)) (f + 1) w) := by
  generalize hp : (match Itm.cutP 128 s.data.toList with | none => none | some (body, rest) => if Itm.stands body then none else some ((⟨false, body, []⟩ : Itm), rest)) = p
  have hmany := fun h => cutP_many (base := 128) (s := s.data.toList) (by rw [ba_len]; exact h2) h
  have hp0 := hp
  unfold Itm.cutP at hp
  rw [ba_getD s h1] at hp hmany
  have hl : (s.data.toList.drop 1).length = s.size - 1 := by simp
  have hes : (s.extract 1 s.size).size = s.size - 1 := by simp
  generalize hn : s[0].toNat - 128 = n at hp hmany
  by_cases h3 : n ≤ 55
  · rw [if_pos h3] at hp
    by_cases h4 : n ≤ (s.data.toList.drop 1).length
    · rw [if_pos h4] at hp
      simp only at hp
      rw [hl] at h4
      have hsi : ((s.extract 1 s.size).extract 0 n).data.toList = (s.data.toList.drop 1).take n := by rw [Lib.extract_data, Lib.extract_to_end]; simp
      have hss : ((s.extract 1 s.size).extract 0 n).size = n := by rw [← ba_len, hsi, List.length_take]; omega
      have hst := stands_eq ((s.extract 1 s.size).extract 0 n)
      rw [hsi, hss] at hst
      by_cases h5 : n = 1
      · have hi : 0 < ((s.extract 1 s.size).extract 0 n).size := by omega
        rw [← hsi, ba_getD _ hi, hsi, decide_eq_true h5, Bool.true_and] at hst
        by_cases h6 : (((s.extract 1 s.size).extract 0 n)[0]'hi).toNat < 128
        · rw [hst, decide_eq_true h6] at hp
          simp only [if_true] at hp
          exact part_short128OneNo (f + 1) s w p n h2 hb h1 hge hlt hn h3 h4 (by simp; omega) (by omega) hi (by omega) hp.symm
        · rw [hst, decide_eq_false h6] at hp
          simp only [Bool.false_eq_true, if_false] at hp
          exact part_short128One f s w p n h2 hb h1 hge hlt hn h3 h4 (by simp; omega) (by omega) hi (by omega) hp.symm
      · rw [hst, decide_eq_false h5] at hp
        simp only [Bool.false_and, Bool.false_eq_true, if_false] at hp
        exact part_short128 f s w p n h2 hb h1 hge hlt hn h3 h4 (by omega) hp.symm
    · rw [if_neg h4] at hp
      exact part_shortNo128 (f + 1) s w p n h2 hb h1 hge hlt hn h3 (by omega) hp.symm
  · rw [if_neg h3] at hp
    obtain ⟨k, rfl⟩ : ∃ k, n = k + 55 := ⟨n - 55, by omega⟩
    rw [Nat.add_sub_cancel] at hp hmany
    by_cases h4 : (s.data.toList.drop 1).length < k ∨ ((s.data.toList.drop 1).getD 0 0).toNat = 0
    · rw [if_pos h4] at hp
      simp only at hp
      by_cases h5 : s.size - 1 < k
      · exact part_longA128 (f + 1) s w p k _ h2 hb h1 hge hlt hn rfl (by omega) h5 hp.symm
      · have hi : 0 < (s.extract 1 s.size).size := by omega
        rw [ext_first s hi] at h4
        exact part_longB128 (f + 1) s w p k _ h2 hb h1 hge hlt hn rfl (by omega) (by omega) hi (by simp; omega) hp.symm
    · rw [if_neg h4] at hp
      have hi : 0 < (s.extract 1 s.size).size := by omega
      rw [ext_first s hi] at h4
      have hz : ((((s.extract 1 s.size)[0]'hi).toNat : Int) == 0) = false := by simp; omega
      by_cases h6 : 4 < k
      · rw [hmany h6] at hp0
        exact part_longC128 (f + 1) s w p k _ h2 hb h1 hge hlt hn rfl (by omega) (by omega) hi hz h6 hp0.symm
      · have hl2 : ((s.data.toList.drop 1).drop k).length = s.size - 1 - k := by rw [List.length_drop, hl]
        have hv4 := val_four (s.data.toList.drop 1) k (by omega)
        have hV : Hid (Itm.val ((s.extract 1 s.size).data.toList.take k) = Itm.val ((s.data.toList.drop 1).take k)) := by rw [Hid, ext_one]
        generalize Itm.val ((s.data.toList.drop 1).take k) = V at hV hp hv4
        by_cases h5 : V ≤ 55 ∨ ((s.data.toList.drop 1).drop k).length < V
        · rw [if_pos h5] at hp
          simp only at hp
          by_cases h7 : V ≤ 55
          · exact part_longD128 (f + 1) s w p k _ h2 hb h1 hge hlt hn rfl (by omega) (by omega) hi hz (by omega) V hV h7 hp.symm
          · exact part_longE128 (f + 1) s w p k _ h2 hb h1 hge hlt hn rfl (by omega) (by omega) hi hz (by omega) V hV (by omega) (by omega) hv4 hp.symm
        · rw [if_neg h5] at hp
          simp only at hp
          have hst : Itm.stands (((s.data.toList.drop 1).drop k).take V) = false := by
            unfold Itm.stands
            rw [List.length_take, hl2, decide_eq_false (by omega)]; rfl
          rw [hst] at hp
          simp only [Bool.false_eq_true, if_false] at hp
          exact part_longF128 f s w p k _ h2 hb h1 hge hlt hn rfl (by omega) (by omega) hi hz (by omega) V hV (by omega) (by omega) hp.symm

theorem part_lists (h2 : s.size ≤ 1000) (hb : s.toList.isEmpty = false) (h1 : 0 < s.size) (hge : 192 ≤ s[0].toNat) (hf : s.size ≤ f + 1)
    (IH : Hid (∀ r : ByteArray, r.size ≤ f → r.size ≤ 1000 → ∀ w, Calls Try.prog 37 #[.string r] w (PartPost (Itm.parse f r.data.toList) f w))) :
    Calls Try.prog 37 #[.string s] w (PartPost (match Itm.cutP 192 s.data.toList with | none => none | some (body, rest) => match Itm.loopP (Itm.parse f) body.length body with | none => none | some l => some (⟨true, [], l⟩, rest)) (f + 1) w) := by
  generalize hp : (match Itm.cutP 192 s.data.toList with | none => none | some (body, rest) => match Itm.loopP (Itm.parse f) body.length body with | none => none | some l => some ((⟨true, [], l⟩ : Itm), rest)) = p
  have hmany := fun h => cutP_many (base := 192) (s := s.data.toList) (by rw [ba_len]; exact h2) h
  have hp0 := hp
  unfold Itm.cutP at hp
  rw [ba_getD s h1] at hp hmany
  have hl : (s.data.toList.drop 1).length = s.size - 1 := by simp
  have hes : (s.extract 1 s.size).size = s.size - 1 := by simp
  generalize hn : s[0].toNat - 192 = n at hp hmany
  by_cases h3 : n ≤ 55
  · rw [if_pos h3] at hp
    by_cases h4 : n ≤ (s.data.toList.drop 1).length
    · rw [if_pos h4] at hp
      simp only at hp
      rw [hl] at h4
      generalize ho : Itm.loopP (Itm.parse f) ((s.data.toList.drop 1).take n).length ((s.data.toList.drop 1).take n) = o at hp
      refine part_short192 f s w p n h2 hb h1 hge hn h3 h4 hf IH o ho.symm ?_ ?_
      · intro l hl'; subst hl'; exact hp.symm
      · intro hl'; subst hl'; exact hp.symm
    · rw [if_neg h4] at hp
      exact part_shortNo192 (f + 1) s w p n h2 hb h1 hge hn h3 (by omega) hp.symm
  · rw [if_neg h3] at hp
    obtain ⟨k, rfl⟩ : ∃ k, n = k + 55 := ⟨n - 55, by omega⟩
    rw [Nat.add_sub_cancel] at hp hmany
    by_cases h4 : (s.data.toList.drop 1).length < k ∨ ((s.data.toList.drop 1).getD 0 0).toNat = 0
    · rw [if_pos h4] at hp
      simp only at hp
      by_cases h5 : s.size - 1 < k
      · exact part_longA192 (f + 1) s w p k _ h2 hb h1 hge hn rfl (by omega) h5 hp.symm
      · have hi : 0 < (s.extract 1 s.size).size := by omega
        rw [ext_first s hi] at h4
        exact part_longB192 (f + 1) s w p k _ h2 hb h1 hge hn rfl (by omega) (by omega) hi (by simp; omega) hp.symm
    · rw [if_neg h4] at hp
      have hi : 0 < (s.extract 1 s.size).size := by omega
      rw [ext_first s hi] at h4
      have hz : ((((s.extract 1 s.size)[0]'hi).toNat : Int) == 0) = false := by simp; omega
      by_cases h6 : 4 < k
      · rw [hmany h6] at hp0
        exact part_longC192 (f + 1) s w p k _ h2 hb h1 hge hn rfl (by omega) (by omega) hi hz h6 hp0.symm
      · have hl2 : ((s.data.toList.drop 1).drop k).length = s.size - 1 - k := by rw [List.length_drop, hl]
        have hv4 := val_four (s.data.toList.drop 1) k (by omega)
        have hV : Hid (Itm.val ((s.extract 1 s.size).data.toList.take k) = Itm.val ((s.data.toList.drop 1).take k)) := by rw [Hid, ext_one]
        generalize Itm.val ((s.data.toList.drop 1).take k) = V at hV hp hv4
        by_cases h5 : V ≤ 55 ∨ ((s.data.toList.drop 1).drop k).length < V
        · rw [if_pos h5] at hp
          simp only at hp
          by_cases h7 : V ≤ 55
          · exact part_longD192 (f + 1) s w p k _ h2 hb h1 hge hn rfl (by omega) (by omega) hi hz (by omega) V hV h7 hp.symm
          · exact part_longE192 (f + 1) s w p k _ h2 hb h1 hge hn rfl (by omega) (by omega) hi hz (by omega) V hV (by omega) (by omega) hv4 hp.symm
        · rw [if_neg h5] at hp
          simp only at hp
          generalize ho : Itm.loopP (Itm.parse f) (((s.data.toList.drop 1).drop k).take V).length (((s.data.toList.drop 1).drop k).take V) = o at hp
          refine part_longF192 f s w p k _ h2 hb h1 hge hn rfl (by omega) (by omega) hi hz (by omega) V hV (by omega) (by omega) hf IH o ho.symm ?_ ?_
          · intro l hl'; subst hl'; exact hp.symm
          · intro hl'; subst hl'; exact hp.symm
end

set_option maxRecDepth 100000 in
/-- 'part' does what 'parse' says, of at most 1000 bytes. -/
theorem part_any : ∀ (f : Nat) (s : ByteArray) (w : World), s.size ≤ f → s.size ≤ 1000 → Calls Try.prog 37 #[.string s] w (PartPost (Itm.parse f s.data.toList) f w) := by
  intro f
  induction f with
  | zero =>
    intro s w h0 _
    rw [Itm.parse_zero]
    exact part_empty 0 s w none (by rw [toList_isEmpty, ba_empty s (by omega)]; rfl) rfl
  | succ f ih =>
    intro s w hf h2
    rw [Itm.parse_succ]
    unfold Itm.stepP
    by_cases h0 : s.data.toList.isEmpty
    · rw [if_pos h0]
      exact part_empty (f + 1) s w none (by rw [toList_isEmpty]; exact h0) rfl
    · rw [if_neg h0]
      have hb : s.toList.isEmpty = false := by rw [toList_isEmpty]; simpa using h0
      have h1 : 0 < s.size := by
        rcases Nat.eq_zero_or_pos s.size with hz | hz
        · rw [ba_empty s hz] at h0; simp at h0
        · exact hz
      rw [ba_getD s h1]
      by_cases h3 : s[0].toNat < 128
      · rw [if_pos h3]
        have h2' : s.size ≤ 1000000 := Nat.le_trans h2 (by decide)
        exact part_byte f s w _ h2' hb h1 h3 rfl
      · rw [if_neg h3]
        by_cases h4 : s[0].toNat < 192
        · rw [if_pos h4]
          have h5 : 128 ≤ s[0].toNat := Nat.le_of_not_lt h3
          exact part_bytes f s w h2 hb h1 h5 h4
        · rw [if_neg h4]
          have h5 : 192 ≤ s[0].toNat := Nat.le_of_not_lt h4
          exact part_lists f s w h2 hb h1 h5 hf (fun r h h' w => ih r w h h')

/-- What 'whole' answers. -/
def WholePost (p : Option (Itm × List UInt8)) (n : Nat) (w : World) (e : Ending) (w' : World) : Prop :=
  (∀ t, p = some (t, []) → ∃ v, e = .returned (.tuple #[v, .bool true]) ∧ Ow w' n w.heap.size w'.heap.size v t) ∧
  ((∀ t, p ≠ some (t, [])) → e = .returned (.tuple #[.agg #[.bool false, .string ⟨#[]⟩, .slice none 0 0], .bool false])) ∧ Below w.heap.size w w'

set_option maxRecDepth 100000 in
set_option maxHeartbeats 800000 in
theorem whole_any (s : ByteArray) (w : World) (h : s.size ≤ 1000) : Calls Try.prog 25 #[.string s] w (WholePost (Itm.parse s.size s.data.toList) s.size w) := by
  have HC := hid (fun w => part_any s.size s w (Nat.le_refl _) h)
  generalize Itm.parse s.size s.data.toList = p at *
  go_enter Try.func25, Try.ntmps25
  go_wp2_with fail
  refine (HC.out _).mono ?_
  rintro e w1 ⟨hno, hyes, hbel⟩
  obtain ⟨hcc, hff⟩ := bcell hbel
  have hsz : w.heap.size < w1.heap.size := by have := hbel.size; simp at this; omega
  cases p with
  | none =>
    obtain rfl := hno rfl
    clear hno hyes
    go_wp2_with fail
    obtain ⟨c0, c1, c2⟩ := set3 (old_block hbel) (.bool false) (.string ⟨#[]⟩) (.slice none 0 0)
    exact bodyPost_ret (v := .tuple #[.agg #[.bool false, .string ⟨#[]⟩, .slice none 0 0], .bool false]) (by simp [results, Try.results25, go_sem, c0, c1, c2, hsz]) rfl ⟨fun t ht => (by cases ht), fun _ => rfl, (box_below hbel _ _ _).alloc (by rw [box_size]; omega) _⟩
  | some tr =>
    obtain ⟨t, rest⟩ := tr
    obtain ⟨v, rfl, hown⟩ := hyes t rest rfl
    obtain ⟨a2, cap2, rfl⟩ := ow_shape hown
    have HO := hid hown
    clear hno hyes hown
    by_cases hr : rest = []
    · subst hr
      go_wp2_with fail
      obtain ⟨c0, c1, c2⟩ := set3 (old_block hbel) (.bool t.list) (.string ⟨t.bytes.toArray⟩) (.slice a2 t.items.length cap2)
      refine bodyPost_ret (v := .tuple #[.agg #[.bool t.list, .string ⟨t.bytes.toArray⟩, .slice a2 t.items.length cap2], .bool true]) (by simp [results, Try.results25, go_sem, c0, c1, c2, hsz]) rfl ⟨fun t' ht' => ?_, fun hn => absurd rfl (hn t), (box_below hbel _ _ _).alloc (by rw [box_size]; omega) _⟩
      cases ht'
      refine ⟨_, rfl, ?_⟩
      have h0 := HO.out
      refine own_widen (lo := w.heap.size + 1) (hi := w1.heap.size) ?_ (Nat.le_succ _) (by simp [World.setCell])
      refine own_frame _ _ _ _ _ (fun k _ hk => Below.heap_alloc _ _ _ (by rw [box_size]; exact hk)) (ow_box _ _ _ (by simpa using h0))
    · have hre : rest.isEmpty = false := by simpa using hr
      go_wp2_with fail
      obtain ⟨c0, c1, c2⟩ := set3 (old_block hbel) (.bool false) (.string ⟨#[]⟩) (.slice none 0 0)
      exact bodyPost_ret (v := .tuple #[.agg #[.bool false, .string ⟨#[]⟩, .slice none 0 0], .bool false]) (by simp [results, Try.results25, go_sem, c0, c1, c2, hsz]) rfl ⟨fun t' ht => absurd (by cases ht; rfl) hr, fun _ => rfl, (box_below hbel _ _ _).alloc (by rw [box_size]; omega) _⟩

/-- What 'parse' says, and what Decode answers then. -/
theorem dec_cases (s : ByteArray) (h : s.size ≤ 1000) :
    ((∀ t, Itm.parse s.size s.data.toList ≠ some (t, [])) ∧ Itm.dec s.data.toList = .error 1) ∨
    ∃ t, Itm.parse s.size s.data.toList = some (t, []) ∧ Itm.pure t = true ∧ Itm.deep t ≤ 1000 ∧ (8 < Itm.deep t ∧ Itm.dec s.data.toList = .error 2 ∨ Itm.deep t ≤ 8 ∧ Itm.dec s.data.toList = .ok t) := by
  unfold Itm.dec
  rw [if_neg (by rw [ba_len]; omega), ba_len]
  cases hp : Itm.parse s.size s.data.toList with
  | none => exact .inl ⟨fun t h => (by cases h), rfl⟩
  | some tr =>
    obtain ⟨t, rest⟩ := tr
    by_cases hr : rest = []
    · subst hr
      refine .inr ⟨t, rfl, (Itm.parse_sound _ _ _ _ hp).2, ?_, ?_⟩
      · have h1 := Itm.deep_le_enc t
        have h2 := (Itm.parse_sound _ _ _ _ hp).1
        have h3 : s.size = (Itm.enc t).length := by rw [← ba_len, h2]; simp
        omega
      · by_cases h8 : 8 < Itm.deep t
        · exact .inl ⟨h8, by simp [h8]⟩
        · exact .inr ⟨by omega, by simp [h8]⟩
    · exact .inl ⟨fun t' h => hr (by cases h; rfl), by simp [hr]⟩

set_option maxRecDepth 100000 in
set_option maxHeartbeats 800000 in
theorem decodeR_big (s : ByteArray) (w : World) (h : 1000 < s.size) : Calls Try.prog 12 #[.string s] w (DecodeOk s w) := by
  have HD : Hid (Itm.dec s.data.toList = .error 2) := by unfold Hid Itm.dec; rw [if_pos (by rw [ba_len]; exact h)]
  go_enter Try.func12, Try.ntmps12
  go_wp2_with fail
  exact bodyPost_ret (v := .tuple #[.agg #[.bool false, .string ⟨#[]⟩, .slice none 0 0], .int .i64 2]) (by simp [results, Try.results12, go_sem]) rfl (decodeOk_err HD.out ((Below.refl _ _).alloc (Nat.le_refl _) _))

set_option maxRecDepth 100000 in
set_option maxHeartbeats 800000 in
theorem decodeR_none (s : ByteArray) (w : World) (h : s.size ≤ 1000) (hno : ∀ t, Itm.parse s.size s.data.toList ≠ some (t, [])) (hd : Itm.dec s.data.toList = .error 1) : Calls Try.prog 12 #[.string s] w (DecodeOk s w) := by
  have HC := hid (fun w => whole_any s w h)
  have HD := hid hd
  have HP := hid hno
  clear hd hno
  go_enter Try.func12, Try.ntmps12
  go_wp2_with fail
  refine (HC.out _).mono ?_
  rintro e w1 ⟨_, hn, hbel⟩
  obtain rfl := hn HP.out
  obtain ⟨hcc, hff⟩ := bcell hbel
  have hsz : w.heap.size < w1.heap.size := by have := hbel.size; simp at this; omega
  clear hn
  go_wp2_with fail
  obtain ⟨c0, c1, c2⟩ := set3 (old_block hbel) (.bool false) (.string ⟨#[]⟩) (.slice none 0 0)
  exact bodyPost_ret (v := .tuple #[.agg #[.bool false, .string ⟨#[]⟩, .slice none 0 0], .int .i64 1]) (by simp [results, Try.results12, go_sem, c0, c1, c2, hsz]) rfl (decodeOk_err HD.out ((box_below hbel _ _ _).alloc (by rw [box_size]; omega) _))

set_option maxRecDepth 100000 in
set_option maxHeartbeats 800000 in
theorem decodeR_deep (s : ByteArray) (w : World) (h : s.size ≤ 1000) (t : Itm) (hp : Itm.parse s.size s.data.toList = some (t, [])) (hpu : Itm.pure t = true) (hdl : Itm.deep t ≤ 1000) (hd8 : 8 < Itm.deep t) (hd : Itm.dec s.data.toList = .error 2) : Calls Try.prog 12 #[.string s] w (DecodeOk s w) := by
  have HC := hid (fun w => whole_any s w h)
  have HD := hid hd
  have HP := hid hp
  have HPU := hid hpu
  clear hd hp hpu
  go_enter Try.func12, Try.ntmps12
  go_wp2_with fail
  refine (HC.out _).mono ?_
  rintro e w1 ⟨hy, _, hbel⟩
  obtain ⟨v, rfl, hown⟩ := hy t HP.out
  have hrep := rep_of_own _ _ _ _ _ (Nat.le_refl _) hown
  obtain ⟨a2, cap2, rfl⟩ := ow_shape hown
  have HR := hid hrep
  clear hy hown hrep
  obtain ⟨hcc, hff⟩ := bcell hbel
  have hsz : w.heap.size < w1.heap.size := by have := hbel.size; simp at this; omega
  go_wp2_with fail
  refine (depthR_any _ _ t _ (rep_in HR.out ((Below.refl _ _).alloc (Nat.le_refl _) _)) HPU.out (by omega)).mono ?_
  rintro e w2 ⟨rfl, hbel2⟩
  obtain ⟨hcc2, hff2⟩ := bcell hbel2
  have hsz1 : w.heap.size < w1.heap.size + 1 := by omega
  go_wp2_with fail
  have hb3 : Below (w.alloc (.cells #[.bool false, .string ⟨#[]⟩, .slice none 0 0] 24)).heap.size (w.alloc (.cells #[.bool false, .string ⟨#[]⟩, .slice none 0 0] 24)) w2 :=
    (hbel.alloc hbel.size _).trans (hbel2.mono (by have := hbel.size; simp at this ⊢; omega))
  obtain ⟨c0, c1, c2⟩ := set3 (old_block hb3) (.bool false) (.string ⟨#[]⟩) (.slice none 0 0)
  exact bodyPost_ret (v := .tuple #[.agg #[.bool false, .string ⟨#[]⟩, .slice none 0 0], .int .i64 2]) (by simp [results, Try.results12, go_sem, c0, c1, c2]) rfl (decodeOk_err HD.out (box_below hb3 _ _ _))

set_option maxRecDepth 100000 in
set_option maxHeartbeats 800000 in
theorem decodeR_yes (s : ByteArray) (w : World) (h : s.size ≤ 1000) (t : Itm) (hp : Itm.parse s.size s.data.toList = some (t, [])) (hpu : Itm.pure t = true) (hd8 : Itm.deep t ≤ 8) (hd : Itm.dec s.data.toList = .ok t) : Calls Try.prog 12 #[.string s] w (DecodeOk s w) := by
  have HC := hid (fun w => whole_any s w h)
  have HD := hid hd
  have HP := hid hp
  have HPU := hid hpu
  clear hd hp hpu
  go_enter Try.func12, Try.ntmps12
  go_wp2_with fail
  refine (HC.out _).mono ?_
  rintro e w1 ⟨hy, _, hbel⟩
  obtain ⟨v, rfl, hown⟩ := hy t HP.out
  have hrep := rep_of_own _ _ _ _ _ (Nat.le_refl _) hown
  obtain ⟨a2, cap2, rfl⟩ := ow_shape hown
  have HR := hid hrep
  have HO := hid hown
  clear hy hown hrep
  obtain ⟨hcc, hff⟩ := bcell hbel
  have hsz : w.heap.size < w1.heap.size := by have := hbel.size; simp at this; omega
  go_wp2_with fail
  refine (depthR_any _ _ t _ (rep_in HR.out ((Below.refl _ _).alloc (Nat.le_refl _) _)) HPU.out (by omega)).mono ?_
  rintro e w2 ⟨rfl, hbel2⟩
  obtain ⟨hcc2, hff2⟩ := bcell hbel2
  have hsz1 : w.heap.size < w1.heap.size + 1 := by omega
  go_wp2_with fail
  have hb3 : Below (w.alloc (.cells #[.bool false, .string ⟨#[]⟩, .slice none 0 0] 24)).heap.size (w.alloc (.cells #[.bool false, .string ⟨#[]⟩, .slice none 0 0] 24)) w2 :=
    (hbel.alloc hbel.size _).trans (hbel2.mono (by have := hbel.size; simp at this ⊢; omega))
  obtain ⟨c0, c1, c2⟩ := set3 (old_block hb3) (.bool t.list) (.string ⟨t.bytes.toArray⟩) (.slice a2 t.items.length cap2)
  refine bodyPost_ret (v := .tuple #[.agg #[.bool t.list, .string ⟨t.bytes.toArray⟩, .slice a2 t.items.length cap2], .int .i64 0]) (by simp [results, Try.results12, go_sem, c0, c1, c2]) rfl ⟨fun n hn => ?_, fun t' ht' => ?_, box_below hb3 _ _ _⟩
  · rw [HD.out] at hn; cases hn
  · rw [HD.out] at ht'
    cases ht'
    refine ⟨_, rfl, ?_⟩
    rw [box_size]
    refine own_widen (lo := w.heap.size + 1) (hi := w1.heap.size) (ow_box _ _ _ ?_) (Nat.le_succ _) (by have := hbel2.size; simp at this; omega)
    refine own_frame _ _ _ _ _ ?_ (by have := HO.out; unfold Ow at this; simpa using this)
    intro k _ hk
    rw [hbel2.block k (by simp; omega)]
    exact Below.heap_alloc _ _ _ hk

/-- The document's own Decode answers as the program's does. -/
theorem decodeR_any (s : ByteArray) (w : World) : Calls Try.prog 12 #[.string s] w (DecodeOk s w) := by
  by_cases h : 1000 < s.size
  · exact decodeR_big s w h
  · rcases dec_cases s (by omega) with ⟨h1, h2⟩ | ⟨t, h1, h2, h3, ⟨h4, h5⟩ | ⟨h4, h5⟩⟩
    · exact decodeR_none s w (by omega) h1 h2
    · exact decodeR_deep s w (by omega) t h1 h2 h3 h4 h5
    · exact decodeR_yes s w (by omega) t h1 h2 h4 h5
end Go.Proofs.Ytplfjengfhijhaa
