/- Part 15 of a proof: what the last text needs. -/
import Derived.Test.YtbmohenjphmlgaaPart14
import Derived.Test.YtbmohenjphmlgaaPart8
import Derived.Test.YtbmohenjphmlgaaPart11
/- The document's own Decode answers as the program's does. -/
namespace Go.Proofs.Ytbmohenjphmlgaa
open Go.RowKit
set_option maxRecDepth 100000
section
variable (f : Nat) (s : ByteArray) (w : World)

theorem ext_one (s : ByteArray) : (s.extract 1 s.size).data.toList = s.data.toList.drop 1 := Lib.extract_to_end _ _

theorem ext_first (s : ByteArray) (hi : 0 < (s.extract 1 s.size).size) : ((s.data.toList.drop 1).getD 0 0).toNat = ((s.extract 1 s.size)[0]'hi).toNat := by
  rw [← ext_one, ba_getD _ hi]

theorem val_four (l : List UInt8) (k : Nat) (h : k ≤ 4) : Itm.val (l.take k) < 4294967296 := by
  have h1 := Itm.val_lt (l.take k)
  exact Nat.lt_of_lt_of_le h1 (Nat.le_trans (Nat.pow_le_pow_right (by omega) (by rw [List.length_take]; omega : _ ≤ 4)) (by decide))

theorem part_bytes (h2 : s.size ≤ 1000) (hb : s.toList.isEmpty = false) (h1 : 0 < s.size) (hge : 128 ≤ s[0].toNat) (hlt : s[0].toNat < 192) :
    Calls Try.prog 69 #[.string s] w (PartPost (match Itm.cutP 128 s.data.toList with | none => none | some (body, rest) => if Itm.stands body then none else some (⟨false, body, []⟩, rest)) (f + 1) w) := by
  generalize hp : (match Itm.cutP 128 s.data.toList with | none => none | some (body, rest) => if Itm.stands body then none else some ((⟨false, body, []⟩ : Itm), rest)) = p
  have hmany := fun h => cutP_many (base := 128) (s := s.data.toList) (by rw [ba_len]; exact h2) h
  have hp0 := hp
  unfold Itm.cutP at hp
  rw [ba_getD s h1] at hp hmany
  have hl : (s.data.toList.drop 1).length = s.size - 1 := by simp
  have hes : (s.extract 1 s.size).size = s.size - 1 := by simp
  generalize hn : s[0].toNat - 128 = n at hp hmany
  by_cases h3 : n ≤ 55
  · rw [if_pos h3] at hp
    by_cases h4 : n ≤ (s.data.toList.drop 1).length
    · rw [if_pos h4] at hp
      simp only at hp
      rw [hl] at h4
      have hsi : ((s.extract 1 s.size).extract 0 n).data.toList = (s.data.toList.drop 1).take n := by rw [Lib.extract_data, Lib.extract_to_end]; simp
      have hss : ((s.extract 1 s.size).extract 0 n).size = n := by rw [← ba_len, hsi, List.length_take]; omega
      have hst := stands_eq ((s.extract 1 s.size).extract 0 n)
      rw [hsi, hss] at hst
      by_cases h5 : n = 1
      · have hi : 0 < ((s.extract 1 s.size).extract 0 n).size := by omega
        rw [← hsi, ba_getD _ hi, hsi, decide_eq_true h5, Bool.true_and] at hst
        by_cases h6 : (((s.extract 1 s.size).extract 0 n)[0]'hi).toNat < 128
        · rw [hst, decide_eq_true h6] at hp
          simp only [if_true] at hp
          exact part_short128OneNo (f + 1) s w p n h2 hb h1 hge hlt hn h3 h4 (by simp; omega) (by omega) hi (by omega) hp.symm
        · rw [hst, decide_eq_false h6] at hp
          simp only [Bool.false_eq_true, if_false] at hp
          exact part_short128One f s w p n h2 hb h1 hge hlt hn h3 h4 (by simp; omega) (by omega) hi (by omega) hp.symm
      · rw [hst, decide_eq_false h5] at hp
        simp only [Bool.false_and, Bool.false_eq_true, if_false] at hp
        exact part_short128 f s w p n h2 hb h1 hge hlt hn h3 h4 (by omega) hp.symm
    · rw [if_neg h4] at hp
      exact part_shortNo128 (f + 1) s w p n h2 hb h1 hge hlt hn h3 (by omega) hp.symm
  · rw [if_neg h3] at hp
    obtain ⟨k, rfl⟩ : ∃ k, n = k + 55 := ⟨n - 55, by omega⟩
    rw [Nat.add_sub_cancel] at hp hmany
    by_cases h4 : (s.data.toList.drop 1).length < k ∨ ((s.data.toList.drop 1).getD 0 0).toNat = 0
    · rw [if_pos h4] at hp
      simp only at hp
      by_cases h5 : s.size - 1 < k
      · exact part_longA128 (f + 1) s w p k _ h2 hb h1 hge hlt hn rfl (by omega) h5 hp.symm
      · have hi : 0 < (s.extract 1 s.size).size := by omega
        rw [ext_first s hi] at h4
        exact part_longB128 (f + 1) s w p k _ h2 hb h1 hge hlt hn rfl (by omega) (by omega) hi (by simp; omega) hp.symm
    · rw [if_neg h4] at hp
      have hi : 0 < (s.extract 1 s.size).size := by omega
      rw [ext_first s hi] at h4
      have hz : ((((s.extract 1 s.size)[0]'hi).toNat : Int) == 0) = false := by simp; omega
      by_cases h6 : 4 < k
      · rw [hmany h6] at hp0
        exact part_longC128 (f + 1) s w p k _ h2 hb h1 hge hlt hn rfl (by omega) (by omega) hi hz h6 hp0.symm
      · have hl2 : ((s.data.toList.drop 1).drop k).length = s.size - 1 - k := by rw [List.length_drop, hl]
        have hv4 := val_four (s.data.toList.drop 1) k (by omega)
        have hV : Hid (Itm.val ((s.extract 1 s.size).data.toList.take k) = Itm.val ((s.data.toList.drop 1).take k)) := by rw [Hid, ext_one]
        generalize Itm.val ((s.data.toList.drop 1).take k) = V at hV hp hv4
        by_cases h5 : V ≤ 55 ∨ ((s.data.toList.drop 1).drop k).length < V
        · rw [if_pos h5] at hp
          simp only at hp
          by_cases h7 : V ≤ 55
          · exact part_longD128 (f + 1) s w p k _ h2 hb h1 hge hlt hn rfl (by omega) (by omega) hi hz (by omega) V hV h7 hp.symm
          · exact part_longE128 (f + 1) s w p k _ h2 hb h1 hge hlt hn rfl (by omega) (by omega) hi hz (by omega) V hV (by omega) (by omega) hv4 hp.symm
        · rw [if_neg h5] at hp
          simp only at hp
          have hst : Itm.stands (((s.data.toList.drop 1).drop k).take V) = false := by
            unfold Itm.stands
            rw [List.length_take, hl2, decide_eq_false (by omega)]; rfl
          rw [hst] at hp
          simp only [Bool.false_eq_true, if_false] at hp
          exact part_longF128 f s w p k _ h2 hb h1 hge hlt hn rfl (by omega) (by omega) hi hz (by omega) V hV (by omega) (by omega) hp.symm

theorem part_lists (h2 : s.size ≤ 1000) (hb : s.toList.isEmpty = false) (h1 : 0 < s.size) (hge : 192 ≤ s[0].toNat) (hf : s.size ≤ f + 1)
    (IH : Hid (∀ r : ByteArray, r.size ≤ f → r.size ≤ 1000 → ∀ w, Calls Try.prog 69 #[.string r] w (PartPost (Itm.parse f r.data.toList) f w))) :
    Calls Try.prog 69 #[.string s] w (PartPost (match Itm.cutP 192 s.data.toList with | none => none | some (body, rest) => match Itm.loopP (Itm.parse f) body.length body with | none => none | some l => some (⟨true, [], l⟩, rest)) (f + 1) w) := by
  generalize hp : (match Itm.cutP 192 s.data.toList with | none => none | some (body, rest) => match Itm.loopP (Itm.parse f) body.length body with | none => none | some l => some ((⟨true, [], l⟩ : Itm), rest)) = p
  have hmany := fun h => cutP_many (base := 192) (s := s.data.toList) (by rw [ba_len]; exact h2) h
  have hp0 := hp
  unfold Itm.cutP at hp
  rw [ba_getD s h1] at hp hmany
  have hl : (s.data.toList.drop 1).length = s.size - 1 := by simp
  have hes : (s.extract 1 s.size).size = s.size - 1 := by simp
  generalize hn : s[0].toNat - 192 = n at hp hmany
  by_cases h3 : n ≤ 55
  · rw [if_pos h3] at hp
    by_cases h4 : n ≤ (s.data.toList.drop 1).length
    · rw [if_pos h4] at hp
      simp only at hp
      rw [hl] at h4
      generalize ho : Itm.loopP (Itm.parse f) ((s.data.toList.drop 1).take n).length ((s.data.toList.drop 1).take n) = o at hp
      refine part_short192 f s w p n h2 hb h1 hge hn h3 h4 hf IH o ho.symm ?_ ?_
      · intro l hl'; subst hl'; exact hp.symm
      · intro hl'; subst hl'; exact hp.symm
    · rw [if_neg h4] at hp
      exact part_shortNo192 (f + 1) s w p n h2 hb h1 hge hn h3 (by omega) hp.symm
  · rw [if_neg h3] at hp
    obtain ⟨k, rfl⟩ : ∃ k, n = k + 55 := ⟨n - 55, by omega⟩
    rw [Nat.add_sub_cancel] at hp hmany
    by_cases h4 : (s.data.toList.drop 1).length < k ∨ ((s.data.toList.drop 1).getD 0 0).toNat = 0
    · rw [if_pos h4] at hp
      simp only at hp
      by_cases h5 : s.size - 1 < k
      · exact part_longA192 (f + 1) s w p k _ h2 hb h1 hge hn rfl (by omega) h5 hp.symm
      · have hi : 0 < (s.extract 1 s.size).size := by omega
        rw [ext_first s hi] at h4
        exact part_longB192 (f + 1) s w p k _ h2 hb h1 hge hn rfl (by omega) (by omega) hi (by simp; omega) hp.symm
    · rw [if_neg h4] at hp
      have hi : 0 < (s.extract 1 s.size).size := by omega
      rw [ext_first s hi] at h4
      have hz : ((((s.extract 1 s.size)[0]'hi).toNat : Int) == 0) = false := by simp; omega
      by_cases h6 : 4 < k
      · rw [hmany h6] at hp0
        exact part_longC192 (f + 1) s w p k _ h2 hb h1 hge hn rfl (by omega) (by omega) hi hz h6 hp0.symm
      · have hl2 : ((s.data.toList.drop 1).drop k).length = s.size - 1 - k := by rw [List.length_drop, hl]
        have hv4 := val_four (s.data.toList.drop 1) k (by omega)
        have hV : Hid (Itm.val ((s.extract 1 s.size).data.toList.take k) = Itm.val ((s.data.toList.drop 1).take k)) := by rw [Hid, ext_one]
        generalize Itm.val ((s.data.toList.drop 1).take k) = V at hV hp hv4
        by_cases h5 : V ≤ 55 ∨ ((s.data.toList.drop 1).drop k).length < V
        · rw [if_pos h5] at hp
          simp only at hp
          by_cases h7 : V ≤ 55
          · exact part_longD192 (f + 1) s w p k _ h2 hb h1 hge hn rfl (by omega) (by omega) hi hz (by omega) V hV h7 hp.symm
          · exact part_longE192 (f + 1) s w p k _ h2 hb h1 hge hn rfl (by omega) (by omega) hi hz (by omega) V hV (by omega) (by omega) hv4 hp.symm
        · rw [if_neg h5] at hp
          simp only at hp
          generalize ho : Itm.loopP (Itm.parse f) (((s.data.toList.drop 1).drop k).take V).length (((s.data.toList.drop 1).drop k).take V) = o at hp
          refine part_longF192 f s w p k _ h2 hb h1 hge hn rfl (by omega) (by omega) hi hz (by omega) V hV (by omega) (by omega) hf IH o ho.symm ?_ ?_
          · intro l hl'; subst hl'; exact hp.symm
          · intro hl'; subst hl'; exact hp.symm
end

/-- 'part' does what 'parse' says, of at most 1000 bytes. -/
theorem part_any : ∀ (f : Nat) (s : ByteArray) (w : World), s.size ≤ f → s.size ≤ 1000 → Calls Try.prog 69 #[.string s] w (PartPost (Itm.parse f s.data.toList) f w) := by
  intro f
  induction f with
  | zero =>
    intro s w h0 _
    rw [Itm.parse_zero]
    exact part_empty 0 s w none (by rw [toList_isEmpty, ba_empty s (by omega)]; rfl) rfl
  | succ f ih =>
    intro s w hf h2
    rw [Itm.parse_succ]
    unfold Itm.stepP
    by_cases h0 : s.data.toList.isEmpty
    · rw [if_pos h0]
      exact part_empty (f + 1) s w none (by rw [toList_isEmpty]; exact h0) rfl
    · rw [if_neg h0]
      have hb : s.toList.isEmpty = false := by rw [toList_isEmpty]; simpa using h0
      have h1 : 0 < s.size := by
        rcases Nat.eq_zero_or_pos s.size with hz | hz
        · rw [ba_empty s hz] at h0; simp at h0
        · exact hz
      rw [ba_getD s h1]
      by_cases h3 : s[0].toNat < 128
      · rw [if_pos h3]
        have h2' : s.size ≤ 1000000 := Nat.le_trans h2 (by decide)
        exact part_byte f s w _ h2' hb h1 h3 rfl
      · rw [if_neg h3]
        by_cases h4 : s[0].toNat < 192
        · rw [if_pos h4]
          have h5 : 128 ≤ s[0].toNat := Nat.le_of_not_lt h3
          exact part_bytes f s w h2 hb h1 h5 h4
        · rw [if_neg h4]
          have h5 : 192 ≤ s[0].toNat := Nat.le_of_not_lt h4
          exact part_lists f s w h2 hb h1 h5 hf (fun r h h' w => ih r w h h')

/-- What 'whole' answers. -/
def WholePost (p : Option (Itm × List UInt8)) (n : Nat) (w : World) (e : Ending) (w' : World) : Prop :=
  (∀ t, p = some (t, []) → ∃ v, e = .returned (.tuple #[v, .bool true]) ∧ Ow w' n w.heap.size w'.heap.size v t) ∧
  ((∀ t, p ≠ some (t, [])) → e = .returned (.tuple #[.agg #[.bool false, .string ⟨#[]⟩, .slice none 0 0], .bool false])) ∧ Below w.heap.size w w'

set_option maxHeartbeats 800000 in
theorem whole_any (s : ByteArray) (w : World) (h : s.size ≤ 1000) : Calls Try.prog 46 #[.string s] w (WholePost (Itm.parse s.size s.data.toList) s.size w) := by
  have HC := hid (fun w => part_any s.size s w (Nat.le_refl _) h)
  generalize Itm.parse s.size s.data.toList = p at *
  go_enter Try.func46, Try.ntmps46
  go_wp2_with fail
  refine (HC.out _).mono ?_
  rintro e w1 ⟨hno, hyes, hbel⟩
  obtain ⟨hcc, hff⟩ := bcell hbel
  have hsz : w.heap.size < w1.heap.size := by have := hbel.size; simp at this; omega
  cases p with
  | none =>
    obtain rfl := hno rfl
    clear hno hyes
    go_wp2_with fail
    obtain ⟨c0, c1, c2⟩ := set3 (old_block hbel) (.bool false) (.string ⟨#[]⟩) (.slice none 0 0)
    exact bodyPost_ret (v := .tuple #[.agg #[.bool false, .string ⟨#[]⟩, .slice none 0 0], .bool false]) (by simp [results, Try.results46, go_sem, c0, c1, c2, hsz]) rfl ⟨fun t ht => (by cases ht), fun _ => rfl, (box_below hbel _ _ _).alloc (by rw [box_size]; omega) _⟩
  | some tr =>
    obtain ⟨t, rest⟩ := tr
    obtain ⟨v, rfl, hown⟩ := hyes t rest rfl
    obtain ⟨a2, cap2, rfl⟩ := ow_shape hown
    have HO := hid hown
    clear hno hyes hown
    by_cases hr : rest = []
    · subst hr
      go_wp2_with fail
      obtain ⟨c0, c1, c2⟩ := set3 (old_block hbel) (.bool t.list) (.string ⟨t.bytes.toArray⟩) (.slice a2 t.items.length cap2)
      refine bodyPost_ret (v := .tuple #[.agg #[.bool t.list, .string ⟨t.bytes.toArray⟩, .slice a2 t.items.length cap2], .bool true]) (by simp [results, Try.results46, go_sem, c0, c1, c2, hsz]) rfl ⟨fun t' ht' => ?_, fun hn => absurd rfl (hn t), (box_below hbel _ _ _).alloc (by rw [box_size]; omega) _⟩
      cases ht'
      refine ⟨_, rfl, ?_⟩
      have h0 := HO.out
      refine own_widen (lo := w.heap.size + 1) (hi := w1.heap.size) ?_ (Nat.le_succ _) (by simp [World.setCell])
      refine own_frame _ _ _ _ _ (fun k _ hk => Below.heap_alloc _ _ _ (by rw [box_size]; exact hk)) (ow_box _ _ _ (by simpa using h0))
    · have hre : rest.isEmpty = false := by simpa using hr
      go_wp2_with fail
      obtain ⟨c0, c1, c2⟩ := set3 (old_block hbel) (.bool false) (.string ⟨#[]⟩) (.slice none 0 0)
      exact bodyPost_ret (v := .tuple #[.agg #[.bool false, .string ⟨#[]⟩, .slice none 0 0], .bool false]) (by simp [results, Try.results46, go_sem, c0, c1, c2, hsz]) rfl ⟨fun t' ht => absurd (by cases ht; rfl) hr, fun _ => rfl, (box_below hbel _ _ _).alloc (by rw [box_size]; omega) _⟩

/-- What 'parse' says, and what Decode answers then. -/
theorem dec_cases (s : ByteArray) (h : s.size ≤ 1000) :
    ((∀ t, Itm.parse s.size s.data.toList ≠ some (t, [])) ∧ Itm.dec s.data.toList = .error 1) ∨
    ∃ t, Itm.parse s.size s.data.toList = some (t, []) ∧ Itm.pure t = true ∧ Itm.deep t ≤ 1000 ∧ (8 < Itm.deep t ∧ Itm.dec s.data.toList = .error 2 ∨ Itm.deep t ≤ 8 ∧ Itm.dec s.data.toList = .ok t) := by
  unfold Itm.dec
  rw [if_neg (by rw [ba_len]; omega), ba_len]
  cases hp : Itm.parse s.size s.data.toList with
  | none => exact .inl ⟨fun t h => (by cases h), rfl⟩
  | some tr =>
    obtain ⟨t, rest⟩ := tr
    by_cases hr : rest = []
    · subst hr
      refine .inr ⟨t, rfl, (Itm.parse_sound _ _ _ _ hp).2, ?_, ?_⟩
      · have h1 := Itm.deep_le_enc t
        have h2 := (Itm.parse_sound _ _ _ _ hp).1
        have h3 : s.size = (Itm.enc t).length := by rw [← ba_len, h2]; simp
        omega
      · by_cases h8 : 8 < Itm.deep t
        · exact .inl ⟨h8, by simp [h8]⟩
        · exact .inr ⟨by omega, by simp [h8]⟩
    · exact .inl ⟨fun t' h => hr (by cases h; rfl), by simp [hr]⟩

set_option maxHeartbeats 800000 in
theorem decodeR_big (s : ByteArray) (w : World) (h : 1000 < s.size) : Calls Try.prog 18 #[.string s] w (DecodeOk s w) := by
  have HD : Hid (Itm.dec s.data.toList = .error 2) := by unfold Hid Itm.dec; rw [if_pos (by rw [ba_len]; exact h)]
  go_enter Try.func18, Try.ntmps18
  go_wp2_with fail
  exact bodyPost_ret (v := .tuple #[.agg #[.bool false, .string ⟨#[]⟩, .slice none 0 0], .int .i64 2]) (by simp [results, Try.results18, go_sem]) rfl (decodeOk_err HD.out ((Below.refl _ _).alloc (Nat.le_refl _) _))

set_option maxHeartbeats 800000 in
theorem decodeR_none (s : ByteArray) (w : World) (h : s.size ≤ 1000) (hno : ∀ t, Itm.parse s.size s.data.toList ≠ some (t, [])) (hd : Itm.dec s.data.toList = .error 1) : Calls Try.prog 18 #[.string s] w (DecodeOk s w) := by
  have HC := hid (fun w => whole_any s w h)
  have HD := hid hd
  have HP := hid hno
  clear hd hno
  go_enter Try.func18, Try.ntmps18
  go_wp2_with fail
  refine (HC.out _).mono ?_
  rintro e w1 ⟨_, hn, hbel⟩
  obtain rfl := hn HP.out
  obtain ⟨hcc, hff⟩ := bcell hbel
  have hsz : w.heap.size < w1.heap.size := by have := hbel.size; simp at this; omega
  clear hn
  go_wp2_with fail
  obtain ⟨c0, c1, c2⟩ := set3 (old_block hbel) (.bool false) (.string ⟨#[]⟩) (.slice none 0 0)
  exact bodyPost_ret (v := .tuple #[.agg #[.bool false, .string ⟨#[]⟩, .slice none 0 0], .int .i64 1]) (by simp [results, Try.results18, go_sem, c0, c1, c2, hsz]) rfl (decodeOk_err HD.out ((box_below hbel _ _ _).alloc (by rw [box_size]; omega) _))

set_option maxHeartbeats 800000 in
theorem decodeR_deep (s : ByteArray) (w : World) (h : s.size ≤ 1000) (t : Itm) (hp : Itm.parse s.size s.data.toList = some (t, [])) (hpu : Itm.pure t = true) (hdl : Itm.deep t ≤ 1000) (hd8 : 8 < Itm.deep t) (hd : Itm.dec s.data.toList = .error 2) : Calls Try.prog 18 #[.string s] w (DecodeOk s w) := by
  have HC := hid (fun w => whole_any s w h)
  have HD := hid hd
  have HP := hid hp
  have HPU := hid hpu
  clear hd hp hpu
  go_enter Try.func18, Try.ntmps18
  go_wp2_with fail
  refine (HC.out _).mono ?_
  rintro e w1 ⟨hy, _, hbel⟩
  obtain ⟨v, rfl, hown⟩ := hy t HP.out
  have hrep := rep_of_own _ _ _ _ _ (Nat.le_refl _) hown
  obtain ⟨a2, cap2, rfl⟩ := ow_shape hown
  have HR := hid hrep
  clear hy hown hrep
  obtain ⟨hcc, hff⟩ := bcell hbel
  have hsz : w.heap.size < w1.heap.size := by have := hbel.size; simp at this; omega
  go_wp2_with fail
  refine (depthR_any _ _ t _ (rep_in HR.out ((Below.refl _ _).alloc (Nat.le_refl _) _)) HPU.out (by omega)).mono ?_
  rintro e w2 ⟨rfl, hbel2⟩
  obtain ⟨hcc2, hff2⟩ := bcell hbel2
  have hsz1 : w.heap.size < w1.heap.size + 1 := by omega
  go_wp2_with fail
  have hb3 : Below (w.alloc (.cells #[.bool false, .string ⟨#[]⟩, .slice none 0 0] 24)).heap.size (w.alloc (.cells #[.bool false, .string ⟨#[]⟩, .slice none 0 0] 24)) w2 :=
    (hbel.alloc hbel.size _).trans (hbel2.mono (by have := hbel.size; simp at this ⊢; omega))
  obtain ⟨c0, c1, c2⟩ := set3 (old_block hb3) (.bool false) (.string ⟨#[]⟩) (.slice none 0 0)
  exact bodyPost_ret (v := .tuple #[.agg #[.bool false, .string ⟨#[]⟩, .slice none 0 0], .int .i64 2]) (by simp [results, Try.results18, go_sem, c0, c1, c2]) rfl (decodeOk_err HD.out (box_below hb3 _ _ _))

set_option maxHeartbeats 800000 in
theorem decodeR_yes (s : ByteArray) (w : World) (h : s.size ≤ 1000) (t : Itm) (hp : Itm.parse s.size s.data.toList = some (t, [])) (hpu : Itm.pure t = true) (hd8 : Itm.deep t ≤ 8) (hd : Itm.dec s.data.toList = .ok t) : Calls Try.prog 18 #[.string s] w (DecodeOk s w) := by
  have HC := hid (fun w => whole_any s w h)
  have HD := hid hd
  have HP := hid hp
  have HPU := hid hpu
  clear hd hp hpu
  go_enter Try.func18, Try.ntmps18
  go_wp2_with fail
  refine (HC.out _).mono ?_
  rintro e w1 ⟨hy, _, hbel⟩
  obtain ⟨v, rfl, hown⟩ := hy t HP.out
  have hrep := rep_of_own _ _ _ _ _ (Nat.le_refl _) hown
  obtain ⟨a2, cap2, rfl⟩ := ow_shape hown
  have HR := hid hrep
  have HO := hid hown
  clear hy hown hrep
  obtain ⟨hcc, hff⟩ := bcell hbel
  have hsz : w.heap.size < w1.heap.size := by have := hbel.size; simp at this; omega
  go_wp2_with fail
  refine (depthR_any _ _ t _ (rep_in HR.out ((Below.refl _ _).alloc (Nat.le_refl _) _)) HPU.out (by omega)).mono ?_
  rintro e w2 ⟨rfl, hbel2⟩
  obtain ⟨hcc2, hff2⟩ := bcell hbel2
  have hsz1 : w.heap.size < w1.heap.size + 1 := by omega
  go_wp2_with fail
  have hb3 : Below (w.alloc (.cells #[.bool false, .string ⟨#[]⟩, .slice none 0 0] 24)).heap.size (w.alloc (.cells #[.bool false, .string ⟨#[]⟩, .slice none 0 0] 24)) w2 :=
    (hbel.alloc hbel.size _).trans (hbel2.mono (by have := hbel.size; simp at this ⊢; omega))
  obtain ⟨c0, c1, c2⟩ := set3 (old_block hb3) (.bool t.list) (.string ⟨t.bytes.toArray⟩) (.slice a2 t.items.length cap2)
  refine bodyPost_ret (v := .tuple #[.agg #[.bool t.list, .string ⟨t.bytes.toArray⟩, .slice a2 t.items.length cap2], .int .i64 0]) (by simp [results, Try.results18, go_sem, c0, c1, c2]) rfl ⟨fun n hn => ?_, fun t' ht' => ?_, box_below hb3 _ _ _⟩
  · rw [HD.out] at hn; cases hn
  · rw [HD.out] at ht'
    cases ht'
    refine ⟨_, rfl, ?_⟩
    rw [box_size]
    refine own_widen (lo := w.heap.size + 1) (hi := w1.heap.size) (ow_box _ _ _ ?_) (Nat.le_succ _) (by have := hbel2.size; simp at this; omega)
    refine own_frame _ _ _ _ _ ?_ (by have := HO.out; unfold Ow at this; simpa using this)
    intro k _ hk
    rw [hbel2.block k (by simp; omega)]
    exact Below.heap_alloc _ _ _ hk

/-- The document's own Decode answers as the program's does. -/
theorem decodeR_any (s : ByteArray) (w : World) : Calls Try.prog 18 #[.string s] w (DecodeOk s w) := by
  by_cases h : 1000 < s.size
  · exact decodeR_big s w h
  · rcases dec_cases s (by omega) with ⟨h1, h2⟩ | ⟨t, h1, h2, h3, ⟨h4, h5⟩ | ⟨h4, h5⟩⟩
    · exact decodeR_none s w (by omega) h1 h2
    · exact decodeR_deep s w (by omega) t h1 h2 h3 h4 h5
    · exact decodeR_yes s w (by omega) t h1 h2 h4 h5
end Go.Proofs.Ytbmohenjphmlgaa

/- The walk of unpath (of the document's own answer). -/
namespace Go.Proofs.Ytbmohenjphmlgaa
open Go.RowKit
set_option maxRecDepth 100000

/-- What unpath answers. -/
def UnPost (t : Itm) (w : World) (e : Ending) (w' : World) : Prop :=
  (Tr.unpath t = none → e = .returned (.tuple #[.slice none 0 0, .bool false, .bool false])) ∧
  (∀ p leaf, Tr.unpath t = some (p, leaf) → ∃ a cap, e = .returned (.tuple #[.slice a p.length cap, .bool leaf, .bool true]) ∧ Bown w' w.heap.size (.slice a p.length cap) p) ∧ Below w.heap.size w w'

theorem unPost_none {t : Itm} {w w' : World} (h : Tr.unpath t = none) (hb : Below w.heap.size w w') : UnPost t w (.returned (.tuple #[.slice none 0 0, .bool false, .bool false])) w' :=
  ⟨fun _ => rfl, fun p leaf hp => (by rw [h] at hp; cases hp), hb⟩

theorem unPost_some {t : Itm} {w w' : World} {p : List UInt8} {leaf : Bool} {a : Option Addr} {cap : Nat} (h : Tr.unpath t = some (p, leaf)) (ho : Bown w' w.heap.size (.slice a p.length cap) p) (hb : Below w.heap.size w w') :
    UnPost t w (.returned (.tuple #[.slice a p.length cap, .bool leaf, .bool true])) w' :=
  ⟨fun hn => (by rw [h] at hn; cases hn), fun p' leaf' hp => (by rw [h] at hp; cases hp; exact ⟨a, cap, rfl, ho⟩), hb⟩

section
variable (s : ByteArray) (w : World) (l : List Itm) (a : Option Addr) (cap : Nat)

theorem unpath_list : Calls Try.prog 85 #[.agg #[.bool true, .string s, .slice a l.length cap]] w (UnPost ⟨true, s.data.toList, l⟩ w) := by
  have HU : Hid (Tr.unpath ⟨true, s.data.toList, l⟩ = none) := by rw [Hid]; simp [Tr.unpath]
  go_enter Try.func85, Try.ntmps85
  go_wp2_with fail
  refine bodyPost_ret (v := .tuple #[.slice none 0 0, .bool false, .bool false]) (by simp [results, Try.results85, go_sem]) rfl ?_
  exact unPost_none HU.out ((Below.refl _ _).alloc (Nat.le_refl _) _)

theorem unpath_empty (h0 : s.size = 0) : Calls Try.prog 85 #[.agg #[.bool false, .string s, .slice a l.length cap]] w (UnPost ⟨false, s.data.toList, l⟩ w) := by
  have hs : s = ⟨#[]⟩ := by apply ByteArray.ext; exact Array.eq_empty_of_size_eq_zero h0
  subst hs
  have HU : Hid (Tr.unpath ⟨false, [], l⟩ = none) := by rw [Hid]; simp [Tr.unpath]
  go_enter Try.func85, Try.ntmps85
  go_wp2_with fail
  refine bodyPost_ret (v := .tuple #[.slice none 0 0, .bool false, .bool false]) (by simp [results, Try.results85, go_sem]) rfl ?_
  exact unPost_none HU.out ((Below.refl _ _).alloc (Nat.le_refl _) _)

theorem unpath_high (h1 : 0 < s.size) (hb : s.toList.isEmpty = false) (hc : 64 ≤ s[0].toNat) : Calls Try.prog 85 #[.agg #[.bool false, .string s, .slice a l.length cap]] w (UnPost ⟨false, s.data.toList, l⟩ w) := by
  have HU : Hid (Tr.unpath ⟨false, s.data.toList, l⟩ = none) := by
    rw [Hid]
    unfold Tr.unpath
    simp only [ba_getD s h1]
    simp [hc]
  have hc' : (64 : Int) ≤ (s[0].toNat : Int) := by omega
  go_enter Try.func85, Try.ntmps85
  go_wp2_with fail
  refine bodyPost_ret (v := .tuple #[.slice none 0 0, .bool false, .bool false]) (by simp [results, Try.results85, go_sem]) rfl ?_
  exact unPost_none HU.out ((Below.refl _ _).alloc (Nat.le_refl _) _)

theorem unpath_bad (h1 : 0 < s.size) (hb : s.toList.isEmpty = false) (hc : s[0].toNat < 64) (ho : s[0].toNat / 16 % 2 ≠ 1) (hm : s[0].toNat % 16 ≠ 0) : Calls Try.prog 85 #[.agg #[.bool false, .string s, .slice a l.length cap]] w (UnPost ⟨false, s.data.toList, l⟩ w) := by
  have HU : Hid (Tr.unpath ⟨false, s.data.toList, l⟩ = none) := by
    rw [Hid]
    unfold Tr.unpath
    simp only [ba_getD s h1]
    simp [ho, hm]
  have hc' : ¬ (64 : Int) ≤ (s[0].toNat : Int) := by omega
  have ho' : ((s[0].toNat : Int) / 16 % 2 == 1) = false := by simp; omega
  have hm' : ((s[0].toNat : Int) % 16 == 0) = false := by simp; omega
  clear ho hm
  go_enter Try.func85, Try.ntmps85
  go_wp2_with fail
  refine bodyPost_ret (v := .tuple #[.slice none 0 0, .bool false, .bool false]) (by simp [results, Try.results85, go_sem]) rfl ?_
  exact unPost_none HU.out ((Below.refl _ _).alloc (Nat.le_refl _) _)

/-- The digits behind the first byte. -/
theorem tail_digits (h2 : s.size ≤ 100000000) : Calls Try.prog 58 #[.string (s.extract 1 s.size)] w fun e w' => ∃ a cap, e = .returned (.slice a (Tr.digits (s.data.toList.drop 1)).length cap) ∧ Bown w' w.heap.size (.slice a (Tr.digits (s.data.toList.drop 1)).length cap) (Tr.digits (s.data.toList.drop 1)) ∧ Below w.heap.size w w' := by
  have := digits_any (s.extract 1 s.size) w (by simp; omega)
  rwa [ext_one] at this

set_option maxHeartbeats 1600000 in
theorem unpath_even (h1 : 0 < s.size) (h2 : s.size ≤ 100000000) (hb : s.toList.isEmpty = false) (hc : s[0].toNat < 64) (ho : s[0].toNat / 16 % 2 ≠ 1) (hm : s[0].toNat % 16 = 0) : Calls Try.prog 85 #[.agg #[.bool false, .string s, .slice a l.length cap]] w (UnPost ⟨false, s.data.toList, l⟩ w) := by
  have HU : Hid (Tr.unpath ⟨false, s.data.toList, l⟩ = some (Tr.digits (s.data.toList.drop 1), decide ((32 : Int) ≤ (s[0].toNat : Int)))) := by
    rw [Hid]
    unfold Tr.unpath
    simp only [ba_getD s h1]
    have e1 : s.data.toList.isEmpty = false := by rw [← Lib.toList_data]; exact hb
    simp [ho, hm, e1, hc]
    omega
  have HT := hid (fun w => tail_digits s w h2)
  have HLN : Hid (([] : List UInt8).length + (Tr.digits (s.data.toList.drop 1)).length ≤ 1000000000) := by rw [Hid, Tr.digits_len]; simp; omega
  have hc' : ¬ (64 : Int) ≤ (s[0].toNat : Int) := by omega
  have ho' : ((s[0].toNat : Int) / 16 % 2 == 1) = false := by simp; omega
  have hm' : ((s[0].toNat : Int) % 16 == 0) = true := by simp; omega
  have i1 : (1 : Int) ≤ (s.size : Int) := by omega
  clear ho hm
  generalize Tr.digits (s.data.toList.drop 1) = D at *
  go_enter Try.func85, Try.ntmps85
  go_wp2_with fail
  refine (HT.out _).mono ?_
  rintro e w1 ⟨a1, cap1, rfl, hD, hbel⟩
  have HD := hid hD
  have HB := hid (below_of_box hbel)
  have HBS : Hid (w.heap.size ≤ w1.heap.size) := HB.out.size
  clear hD hbel
  go_wp2_with (at_builtin; refine wpList_append_bytes _ rfl (.tmp 45) (.tmp 48) rfl w.heap.size _ (.slice none 0 0) _ [] D rfl rfl (bown_nil _ _) (brd_of_bown HD.out) HLN.out HBS.out ?_; intro v' w' ho' hg' hn'; obtain ⟨a2, cap2, rfl⟩ := bown_shape ho'; have HO' := hid ho'; have HG' := hid hg'; clear ho' hg' hn')
  refine bodyPost_ret (v := .tuple #[.slice a2 ([] ++ D).length cap2, .bool (decide ((32 : Int) ≤ (s[0].toNat : Int))), .bool true]) (by simp [results, Try.results85, go_sem]) rfl ?_
  exact unPost_some HU.out HO'.out (HB.out.grown HG'.out HBS.out (fun g hg => by simp [Value.ownBlock] at hg))

theorem odd_cell (c : UInt8) : #[Value.int .u8 ((c.toNat : Int) % 16)].toList = Lib.byteCells [UInt8.ofNat (c.toNat % 16)] := by
  simp only [Lib.byteCells, List.map_cons, List.map_nil]
  have e2 : (UInt8.ofNat (c.toNat % 16)).toNat = c.toNat % 16 := by simp; omega
  rw [e2]
  rfl

set_option maxHeartbeats 1600000 in
theorem unpath_odd (h1 : 0 < s.size) (h2 : s.size ≤ 100000000) (hb : s.toList.isEmpty = false) (hc : s[0].toNat < 64) (ho : s[0].toNat / 16 % 2 = 1) : Calls Try.prog 85 #[.agg #[.bool false, .string s, .slice a l.length cap]] w (UnPost ⟨false, s.data.toList, l⟩ w) := by
  have HU : Hid (Tr.unpath ⟨false, s.data.toList, l⟩ = some ([] ++ [UInt8.ofNat (s[0].toNat % 16)] ++ Tr.digits (s.data.toList.drop 1), decide ((32 : Int) ≤ (s[0].toNat : Int)))) := by
    rw [Hid]
    unfold Tr.unpath
    simp only [ba_getD s h1]
    have e1 : s.data.toList.isEmpty = false := by rw [← Lib.toList_data]; exact hb
    simp [ho, e1, hc]
    omega
  have HT := hid (fun w => tail_digits s w h2)
  have HLN : Hid (([] ++ [UInt8.ofNat (s[0].toNat % 16)]).length + (Tr.digits (s.data.toList.drop 1)).length ≤ 1000000000) := by rw [Hid, Tr.digits_len]; simp; omega
  have HLN1 : Hid (([] : List UInt8).length + 1 ≤ 1000000000) := by rw [Hid]; simp
  have HZ := hid (odd_cell s[0])
  have HL0 : Hid ((w.alloc (.cells #[.bool false, .string s, .slice a l.length cap] 24)).heap.size = w.heap.size + 1) := by rw [Hid]; simp
  have hc' : ¬ (64 : Int) ≤ (s[0].toNat : Int) := by omega
  have ho' : ((s[0].toNat : Int) / 16 % 2 == 1) = true := by simp; omega
  have i1 : (1 : Int) ≤ (s.size : Int) := by omega
  have HA := hid ((Below.refl w.heap.size w).alloc (Nat.le_refl _) (.cells #[.bool false, .string s, .slice a l.length cap] 24))
  clear ho
  generalize Tr.digits (s.data.toList.drop 1) = D at *
  go_enter Try.func85, Try.ntmps85
  go_wp2_with (at_builtin; refine wpList_push_bytes rfl (.tmp 39) (.tmp 43) rfl [UInt8.ofNat (s[0].toNat % 16)] (w.heap.size + 1) HL0.out rfl rfl (bown_nil _ _) HA.out (Nat.le_refl _) HZ.out HLN1.out ?_; intro v1 w0 ho1 hb1; obtain ⟨a0, cap0, rfl⟩ := bown_shape ho1; have HO1 := hid ho1; have HB1 := hid hb1; clear ho1 hb1)
  refine (HT.out _).mono ?_
  rintro e w1 ⟨a1, cap1, rfl, hD, hbel⟩
  have HD := hid hD
  have HB := hid (HB1.out.trans (hbel.mono HB1.out.size))
  have HO2 := hid (bown_frame HO1.out (fun g hg => hbel.block g (bown_lt HO1.out g hg).2))
  have HBS : Hid (w.heap.size ≤ w1.heap.size) := HB.out.size
  clear hD hbel
  go_wp2_with (at_builtin; refine wpList_append_bytes _ rfl (.tmp 45) (.tmp 48) rfl w.heap.size _ _ _ _ D rfl rfl HO2.out (brd_of_bown HD.out) HLN.out HBS.out ?_; intro v' w' ho' hg' hn'; obtain ⟨a2, cap2, rfl⟩ := bown_shape ho'; have HO' := hid ho'; have HG' := hid hg'; clear ho' hg' hn')
  refine bodyPost_ret (v := .tuple #[.slice a2 ([] ++ [UInt8.ofNat (s[0].toNat % 16)] ++ D).length cap2, .bool (decide ((32 : Int) ≤ (s[0].toNat : Int))), .bool true]) (by simp [results, Try.results85, go_sem]) rfl ?_
  exact unPost_some HU.out HO'.out (HB.out.grown HG'.out HBS.out (fun g hg => (bown_lt HO2.out g hg).1))

end

theorem unpath_any (t : Itm) (w : World) (a : Option Addr) (cap : Nat) (hs : t.bytes.length ≤ 100000000) :
    Calls Try.prog 85 #[.agg #[.bool t.list, .string ⟨t.bytes.toArray⟩, .slice a t.items.length cap]] w (UnPost t w) := by
  obtain ⟨lb, b, l⟩ := t
  have e : (⟨b.toArray⟩ : ByteArray).data.toList = b := rfl
  cases lb with
  | true => exact unpath_list ⟨b.toArray⟩ w l a cap
  | false =>
    have hsz : (⟨b.toArray⟩ : ByteArray).size ≤ 100000000 := hs
    by_cases h0 : (⟨b.toArray⟩ : ByteArray).size = 0
    · exact unpath_empty ⟨b.toArray⟩ w l a cap h0
    · have h1 : 0 < (⟨b.toArray⟩ : ByteArray).size := by omega
      have hb : (⟨b.toArray⟩ : ByteArray).toList.isEmpty = false := by
        rw [Lib.toList_data, e]
        have h2 : 0 < b.length := h1
        cases b with
        | nil => simp at h2
        | cons x r => rfl
      by_cases hc : 64 ≤ ((⟨b.toArray⟩ : ByteArray)[0]).toNat
      · exact unpath_high ⟨b.toArray⟩ w l a cap h1 hb hc
      · by_cases ho : ((⟨b.toArray⟩ : ByteArray)[0]).toNat / 16 % 2 = 1
        · exact unpath_odd ⟨b.toArray⟩ w l a cap h1 hsz hb (by omega) ho
        · by_cases hm : ((⟨b.toArray⟩ : ByteArray)[0]).toNat % 16 = 0
          · exact unpath_even ⟨b.toArray⟩ w l a cap h1 hsz hb (by omega) ho hm
          · exact unpath_bad ⟨b.toArray⟩ w l a cap h1 hb (by omega) ho hm
end Go.Proofs.Ytbmohenjphmlgaa
