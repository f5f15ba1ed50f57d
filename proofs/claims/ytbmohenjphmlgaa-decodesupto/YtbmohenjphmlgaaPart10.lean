/- Part 10 of a proof: what the last text needs. -/
import Derived.Test.YtbmohenjphmlgaaPart9
import Derived.Test.YtbmohenjphmlgaaPart5
import Derived.Test.YtbmohenjphmlgaaPart8
/- The document's own Decode answers as the program's does. -/
namespace Go.Proofs.Ytbmohenjphmlgaa
open Go.RowKit
set_option maxRecDepth 100000
section
variable (f : Nat) (s : ByteArray) (w : World)

theorem ext_one (s : ByteArray) : (s.extract 1 s.size).data.toList = s.data.toList.drop 1 := Lib.extract_to_end _ _

theorem ext_first (s : ByteArray) (hi : 0 < (s.extract 1 s.size).size) : ((s.data.toList.drop 1).getD 0 0).toNat = ((s.extract 1 s.size)[0]'hi).toNat := by
  rw [← ext_one, ba_getD _ hi]

theorem val_four (l : List UInt8) (k : Nat) (h : k ≤ 4) : Itm.val (l.take k) < 4294967296 := by
  have h1 := Itm.val_lt (l.take k)
  exact Nat.lt_of_lt_of_le h1 (Nat.le_trans (Nat.pow_le_pow_right (by omega) (by rw [List.length_take]; omega : _ ≤ 4)) (by decide))

theorem part_bytes (h2 : s.size ≤ 1000) (hb : s.toList.isEmpty = false) (h1 : 0 < s.size) (hge : 128 ≤ s[0].toNat) (hlt : s[0].toNat < 192) :
    Calls Try.prog 69 #[.string s] w (PartPost (match Itm.cutP 128 s.data.toList with | none => none | some (body, rest) => if Itm.stands body then none else some (⟨false, body, []⟩, rest)) (f + 1) w) := by
  generalize hp : (match Itm.cutP 128 s.data.toList with | none => none | some (body, rest) => if Itm.stands body then none else some ((⟨false, body, []⟩ : Itm), rest)) = p
  have hmany := fun h => cutP_many (base := 128) (s := s.data.toList) (by rw [ba_len]; exact h2) h
  have hp0 := hp
  unfold Itm.cutP at hp
  rw [ba_getD s h1] at hp hmany
  have hl : (s.data.toList.drop 1).length = s.size - 1 := by simp
  have hes : (s.extract 1 s.size).size = s.size - 1 := by simp
  generalize hn : s[0].toNat - 128 = n at hp hmany
  by_cases h3 : n ≤ 55
  · rw [if_pos h3] at hp
    by_cases h4 : n ≤ (s.data.toList.drop 1).length
    · rw [if_pos h4] at hp
      simp only at hp
      rw [hl] at h4
      have hsi : ((s.extract 1 s.size).extract 0 n).data.toList = (s.data.toList.drop 1).take n := by rw [Lib.extract_data, Lib.extract_to_end]; simp
      have hss : ((s.extract 1 s.size).extract 0 n).size = n := by rw [← ba_len, hsi, List.length_take]; omega
      have hst := stands_eq ((s.extract 1 s.size).extract 0 n)
      rw [hsi, hss] at hst
      by_cases h5 : n = 1
      · have hi : 0 < ((s.extract 1 s.size).extract 0 n).size := by omega
        rw [← hsi, ba_getD _ hi, hsi, decide_eq_true h5, Bool.true_and] at hst
        by_cases h6 : (((s.extract 1 s.size).extract 0 n)[0]'hi).toNat < 128
        · rw [hst, decide_eq_true h6] at hp
          simp only [if_true] at hp
          exact part_short128OneNo (f + 1) s w p n h2 hb h1 hge hlt hn h3 h4 (by simp; omega) (by omega) hi (by omega) hp.symm
        · rw [hst, decide_eq_false h6] at hp
          simp only [Bool.false_eq_true, if_false] at hp
          exact part_short128One f s w p n h2 hb h1 hge hlt hn h3 h4 (by simp; omega) (by omega) hi (by omega) hp.symm
      · rw [hst, decide_eq_false h5] at hp
        simp only [Bool.false_and, Bool.false_eq_true, if_false] at hp
        exact part_short128 f s w p n h2 hb h1 hge hlt hn h3 h4 (by omega) hp.symm
    · rw [if_neg h4] at hp
      exact part_shortNo128 (f + 1) s w p n h2 hb h1 hge hlt hn h3 (by omega) hp.symm
  · rw [if_neg h3] at hp
    obtain ⟨k, rfl⟩ : ∃ k, n = k + 55 := ⟨n - 55, by omega⟩
    rw [Nat.add_sub_cancel] at hp hmany
    by_cases h4 : (s.data.toList.drop 1).length < k ∨ ((s.data.toList.drop 1).getD 0 0).toNat = 0
    · rw [if_pos h4] at hp
      simp only at hp
      by_cases h5 : s.size - 1 < k
      · exact part_longA128 (f + 1) s w p k _ h2 hb h1 hge hlt hn rfl (by omega) h5 hp.symm
      · have hi : 0 < (s.extract 1 s.size).size := by omega
        rw [ext_first s hi] at h4
        exact part_longB128 (f + 1) s w p k _ h2 hb h1 hge hlt hn rfl (by omega) (by omega) hi (by simp; omega) hp.symm
    · rw [if_neg h4] at hp
      have hi : 0 < (s.extract 1 s.size).size := by omega
      rw [ext_first s hi] at h4
      have hz : ((((s.extract 1 s.size)[0]'hi).toNat : Int) == 0) = false := by simp; omega
      by_cases h6 : 4 < k
      · rw [hmany h6] at hp0
        exact part_longC128 (f + 1) s w p k _ h2 hb h1 hge hlt hn rfl (by omega) (by omega) hi hz h6 hp0.symm
      · have hl2 : ((s.data.toList.drop 1).drop k).length = s.size - 1 - k := by rw [List.length_drop, hl]
        have hv4 := val_four (s.data.toList.drop 1) k (by omega)
        have hV : Hid (Itm.val ((s.extract 1 s.size).data.toList.take k) = Itm.val ((s.data.toList.drop 1).take k)) := by rw [Hid, ext_one]
        generalize Itm.val ((s.data.toList.drop 1).take k) = V at hV hp hv4
        by_cases h5 : V ≤ 55 ∨ ((s.data.toList.drop 1).drop k).length < V
        · rw [if_pos h5] at hp
          simp only at hp
          by_cases h7 : V ≤ 55
          · exact part_longD128 (f + 1) s w p k _ h2 hb h1 hge hlt hn rfl (by omega) (by omega) hi hz (by omega) V hV h7 hp.symm
          · exact part_longE128 (f + 1) s w p k _ h2 hb h1 hge hlt hn rfl (by omega) (by omega) hi hz (by omega) V hV (by omega) (by omega) hv4 hp.symm
        · rw [if_neg h5] at hp
          simp only at hp
          have hst : Itm.stands (((s.data.toList.drop 1).drop k).take V) = false := by
            unfold Itm.stands
            rw [List.length_take, hl2, decide_eq_false (by omega)]; rfl
          rw [hst] at hp
          simp only [Bool.false_eq_true, if_false] at hp
          exact part_longF128 f s w p k _ h2 hb h1 hge hlt hn rfl (by omega) (by omega) hi hz (by omega) V hV (by omega) (by omega) hp.symm

theorem part_lists (h2 : s.size ≤ 1000) (hb : s.toList.isEmpty = false) (h1 : 0 < s.size) (hge : 192 ≤ s[0].toNat) (hf : s.size ≤ f + 1)
    (IH : Hid (∀ r : ByteArray, r.size ≤ f → r.size ≤ 1000 → ∀ w, Calls Try.prog 69 #[.string r] w (PartPost (Itm.parse f r.data.toList) f w))) :
    Calls Try.prog 69 #[.string s] w (PartPost (match Itm.cutP 192 s.data.toList with | none => none | some (body, rest) => match Itm.loopP (Itm.parse f) body.length body with | none => none | some l => some (⟨true, [], l⟩, rest)) (f + 1) w) := by
  generalize hp : (match Itm.cutP 192 s.data.toList with | none => none | some (body, rest) => match Itm.loopP (Itm.parse f) body.length body with | none => none | some l => some ((⟨true, [], l⟩ : Itm), rest)) = p
  have hmany := fun h => cutP_many (base := 192) (s := s.data.toList) (by rw [ba_len]; exact h2) h
  have hp0 := hp
  unfold Itm.cutP at hp
  rw [ba_getD s h1] at hp hmany
  have hl : (s.data.toList.drop 1).length = s.size - 1 := by simp
  have hes : (s.extract 1 s.size).size = s.size - 1 := by simp
  generalize hn : s[0].toNat - 192 = n at hp hmany
  by_cases h3 : n ≤ 55
  · rw [if_pos h3] at hp
    by_cases h4 : n ≤ (s.data.toList.drop 1).length
    · rw [if_pos h4] at hp
      simp only at hp
      rw [hl] at h4
      generalize ho : Itm.loopP (Itm.parse f) ((s.data.toList.drop 1).take n).length ((s.data.toList.drop 1).take n) = o at hp
      refine part_short192 f s w p n h2 hb h1 hge hn h3 h4 hf IH o ho.symm ?_ ?_
      · intro l hl'; subst hl'; exact hp.symm
      · intro hl'; subst hl'; exact hp.symm
    · rw [if_neg h4] at hp
      exact part_shortNo192 (f + 1) s w p n h2 hb h1 hge hn h3 (by omega) hp.symm
  · rw [if_neg h3] at hp
    obtain ⟨k, rfl⟩ : ∃ k, n = k + 55 := ⟨n - 55, by omega⟩
    rw [Nat.add_sub_cancel] at hp hmany
    by_cases h4 : (s.data.toList.drop 1).length < k ∨ ((s.data.toList.drop 1).getD 0 0).toNat = 0
    · rw [if_pos h4] at hp
      simp only at hp
      by_cases h5 : s.size - 1 < k
      · exact part_longA192 (f + 1) s w p k _ h2 hb h1 hge hn rfl (by omega) h5 hp.symm
      · have hi : 0 < (s.extract 1 s.size).size := by omega
        rw [ext_first s hi] at h4
        exact part_longB192 (f + 1) s w p k _ h2 hb h1 hge hn rfl (by omega) (by omega) hi (by simp; omega) hp.symm
    · rw [if_neg h4] at hp
      have hi : 0 < (s.extract 1 s.size).size := by omega
      rw [ext_first s hi] at h4
      have hz : ((((s.extract 1 s.size)[0]'hi).toNat : Int) == 0) = false := by simp; omega
      by_cases h6 : 4 < k
      · rw [hmany h6] at hp0
        exact part_longC192 (f + 1) s w p k _ h2 hb h1 hge hn rfl (by omega) (by omega) hi hz h6 hp0.symm
      · have hl2 : ((s.data.toList.drop 1).drop k).length = s.size - 1 - k := by rw [List.length_drop, hl]
        have hv4 := val_four (s.data.toList.drop 1) k (by omega)
        have hV : Hid (Itm.val ((s.extract 1 s.size).data.toList.take k) = Itm.val ((s.data.toList.drop 1).take k)) := by rw [Hid, ext_one]
        generalize Itm.val ((s.data.toList.drop 1).take k) = V at hV hp hv4
        by_cases h5 : V ≤ 55 ∨ ((s.data.toList.drop 1).drop k).length < V
        · rw [if_pos h5] at hp
          simp only at hp
          by_cases h7 : V ≤ 55
          · exact part_longD192 (f + 1) s w p k _ h2 hb h1 hge hn rfl (by omega) (by omega) hi hz (by omega) V hV h7 hp.symm
          · exact part_longE192 (f + 1) s w p k _ h2 hb h1 hge hn rfl (by omega) (by omega) hi hz (by omega) V hV (by omega) (by omega) hv4 hp.symm
        · rw [if_neg h5] at hp
          simp only at hp
          generalize ho : Itm.loopP (Itm.parse f) (((s.data.toList.drop 1).drop k).take V).length (((s.data.toList.drop 1).drop k).take V) = o at hp
          refine part_longF192 f s w p k _ h2 hb h1 hge hn rfl (by omega) (by omega) hi hz (by omega) V hV (by omega) (by omega) hf IH o ho.symm ?_ ?_
          · intro l hl'; subst hl'; exact hp.symm
          · intro hl'; subst hl'; exact hp.symm
end

/-- 'part' does what 'parse' says, of at most 1000 bytes. -/
theorem part_any : ∀ (f : Nat) (s : ByteArray) (w : World), s.size ≤ f → s.size ≤ 1000 → Calls Try.prog 69 #[.string s] w (PartPost (Itm.parse f s.data.toList) f w) := by
  intro f
  induction f with
  | zero =>
    intro s w h0 _
    rw [Itm.parse_zero]
    exact part_empty 0 s w none (by rw [toList_isEmpty, ba_empty s (by omega)]; rfl) rfl
  | succ f ih =>
    intro s w hf h2
    rw [Itm.parse_succ]
    unfold Itm.stepP
    by_cases h0 : s.data.toList.isEmpty
    · rw [if_pos h0]
      exact part_empty (f + 1) s w none (by rw [toList_isEmpty]; exact h0) rfl
    · rw [if_neg h0]
      have hb : s.toList.isEmpty = false := by rw [toList_isEmpty]; simpa using h0
      have h1 : 0 < s.size := by
        rcases Nat.eq_zero_or_pos s.size with hz | hz
        · rw [ba_empty s hz] at h0; simp at h0
        · exact hz
      rw [ba_getD s h1]
      by_cases h3 : s[0].toNat < 128
      · rw [if_pos h3]
        have h2' : s.size ≤ 1000000 := Nat.le_trans h2 (by decide)
        exact part_byte f s w _ h2' hb h1 h3 rfl
      · rw [if_neg h3]
        by_cases h4 : s[0].toNat < 192
        · rw [if_pos h4]
          have h5 : 128 ≤ s[0].toNat := Nat.le_of_not_lt h3
          exact part_bytes f s w h2 hb h1 h5 h4
        · rw [if_neg h4]
          have h5 : 192 ≤ s[0].toNat := Nat.le_of_not_lt h4
          exact part_lists f s w h2 hb h1 h5 hf (fun r h h' w => ih r w h h')

/-- What 'whole' answers. -/
def WholePost (p : Option (Itm × List UInt8)) (n : Nat) (w : World) (e : Ending) (w' : World) : Prop :=
  (∀ t, p = some (t, []) → ∃ v, e = .returned (.tuple #[v, .bool true]) ∧ Ow w' n w.heap.size w'.heap.size v t) ∧
  ((∀ t, p ≠ some (t, [])) → e = .returned (.tuple #[.agg #[.bool false, .string ⟨#[]⟩, .slice none 0 0], .bool false])) ∧ Below w.heap.size w w'

set_option maxHeartbeats 800000 in
theorem whole_any (s : ByteArray) (w : World) (h : s.size ≤ 1000) : Calls Try.prog 46 #[.string s] w (WholePost (Itm.parse s.size s.data.toList) s.size w) := by
  have HC := hid (fun w => part_any s.size s w (Nat.le_refl _) h)
  generalize Itm.parse s.size s.data.toList = p at *
  go_enter Try.func46, Try.ntmps46
  go_wp2_with fail
  refine (HC.out _).mono ?_
  rintro e w1 ⟨hno, hyes, hbel⟩
  obtain ⟨hcc, hff⟩ := bcell hbel
  have hsz : w.heap.size < w1.heap.size := by have := hbel.size; simp at this; omega
  cases p with
  | none =>
    obtain rfl := hno rfl
    clear hno hyes
    go_wp2_with fail
    obtain ⟨c0, c1, c2⟩ := set3 (old_block hbel) (.bool false) (.string ⟨#[]⟩) (.slice none 0 0)
    exact bodyPost_ret (v := .tuple #[.agg #[.bool false, .string ⟨#[]⟩, .slice none 0 0], .bool false]) (by simp [results, Try.results46, go_sem, c0, c1, c2, hsz]) rfl ⟨fun t ht => (by cases ht), fun _ => rfl, (box_below hbel _ _ _).alloc (by rw [box_size]; omega) _⟩
  | some tr =>
    obtain ⟨t, rest⟩ := tr
    obtain ⟨v, rfl, hown⟩ := hyes t rest rfl
    obtain ⟨a2, cap2, rfl⟩ := ow_shape hown
    have HO := hid hown
    clear hno hyes hown
    by_cases hr : rest = []
    · subst hr
      go_wp2_with fail
      obtain ⟨c0, c1, c2⟩ := set3 (old_block hbel) (.bool t.list) (.string ⟨t.bytes.toArray⟩) (.slice a2 t.items.length cap2)
      refine bodyPost_ret (v := .tuple #[.agg #[.bool t.list, .string ⟨t.bytes.toArray⟩, .slice a2 t.items.length cap2], .bool true]) (by simp [results, Try.results46, go_sem, c0, c1, c2, hsz]) rfl ⟨fun t' ht' => ?_, fun hn => absurd rfl (hn t), (box_below hbel _ _ _).alloc (by rw [box_size]; omega) _⟩
      cases ht'
      refine ⟨_, rfl, ?_⟩
      have h0 := HO.out
      refine own_widen (lo := w.heap.size + 1) (hi := w1.heap.size) ?_ (Nat.le_succ _) (by simp [World.setCell])
      refine own_frame _ _ _ _ _ (fun k _ hk => Below.heap_alloc _ _ _ (by rw [box_size]; exact hk)) (ow_box _ _ _ (by simpa using h0))
    · have hre : rest.isEmpty = false := by simpa using hr
      go_wp2_with fail
      obtain ⟨c0, c1, c2⟩ := set3 (old_block hbel) (.bool false) (.string ⟨#[]⟩) (.slice none 0 0)
      exact bodyPost_ret (v := .tuple #[.agg #[.bool false, .string ⟨#[]⟩, .slice none 0 0], .bool false]) (by simp [results, Try.results46, go_sem, c0, c1, c2, hsz]) rfl ⟨fun t' ht => absurd (by cases ht; rfl) hr, fun _ => rfl, (box_below hbel _ _ _).alloc (by rw [box_size]; omega) _⟩

/-- What 'parse' says, and what Decode answers then. -/
theorem dec_cases (s : ByteArray) (h : s.size ≤ 1000) :
    ((∀ t, Itm.parse s.size s.data.toList ≠ some (t, [])) ∧ Itm.dec s.data.toList = .error 1) ∨
    ∃ t, Itm.parse s.size s.data.toList = some (t, []) ∧ Itm.pure t = true ∧ Itm.deep t ≤ 1000 ∧ (8 < Itm.deep t ∧ Itm.dec s.data.toList = .error 2 ∨ Itm.deep t ≤ 8 ∧ Itm.dec s.data.toList = .ok t) := by
  unfold Itm.dec
  rw [if_neg (by rw [ba_len]; omega), ba_len]
  cases hp : Itm.parse s.size s.data.toList with
  | none => exact .inl ⟨fun t h => (by cases h), rfl⟩
  | some tr =>
    obtain ⟨t, rest⟩ := tr
    by_cases hr : rest = []
    · subst hr
      refine .inr ⟨t, rfl, (Itm.parse_sound _ _ _ _ hp).2, ?_, ?_⟩
      · have h1 := Itm.deep_le_enc t
        have h2 := (Itm.parse_sound _ _ _ _ hp).1
        have h3 : s.size = (Itm.enc t).length := by rw [← ba_len, h2]; simp
        omega
      · by_cases h8 : 8 < Itm.deep t
        · exact .inl ⟨h8, by simp [h8]⟩
        · exact .inr ⟨by omega, by simp [h8]⟩
    · exact .inl ⟨fun t' h => hr (by cases h; rfl), by simp [hr]⟩

set_option maxHeartbeats 800000 in
theorem decodeR_big (s : ByteArray) (w : World) (h : 1000 < s.size) : Calls Try.prog 18 #[.string s] w (DecodeOk s w) := by
  have HD : Hid (Itm.dec s.data.toList = .error 2) := by unfold Hid Itm.dec; rw [if_pos (by rw [ba_len]; exact h)]
  go_enter Try.func18, Try.ntmps18
  go_wp2_with fail
  exact bodyPost_ret (v := .tuple #[.agg #[.bool false, .string ⟨#[]⟩, .slice none 0 0], .int .i64 2]) (by simp [results, Try.results18, go_sem]) rfl (decodeOk_err HD.out ((Below.refl _ _).alloc (Nat.le_refl _) _))

set_option maxHeartbeats 800000 in
theorem decodeR_none (s : ByteArray) (w : World) (h : s.size ≤ 1000) (hno : ∀ t, Itm.parse s.size s.data.toList ≠ some (t, [])) (hd : Itm.dec s.data.toList = .error 1) : Calls Try.prog 18 #[.string s] w (DecodeOk s w) := by
  have HC := hid (fun w => whole_any s w h)
  have HD := hid hd
  have HP := hid hno
  clear hd hno
  go_enter Try.func18, Try.ntmps18
  go_wp2_with fail
  refine (HC.out _).mono ?_
  rintro e w1 ⟨_, hn, hbel⟩
  obtain rfl := hn HP.out
  obtain ⟨hcc, hff⟩ := bcell hbel
  have hsz : w.heap.size < w1.heap.size := by have := hbel.size; simp at this; omega
  clear hn
  go_wp2_with fail
  obtain ⟨c0, c1, c2⟩ := set3 (old_block hbel) (.bool false) (.string ⟨#[]⟩) (.slice none 0 0)
  exact bodyPost_ret (v := .tuple #[.agg #[.bool false, .string ⟨#[]⟩, .slice none 0 0], .int .i64 1]) (by simp [results, Try.results18, go_sem, c0, c1, c2, hsz]) rfl (decodeOk_err HD.out ((box_below hbel _ _ _).alloc (by rw [box_size]; omega) _))

set_option maxHeartbeats 800000 in
theorem decodeR_deep (s : ByteArray) (w : World) (h : s.size ≤ 1000) (t : Itm) (hp : Itm.parse s.size s.data.toList = some (t, [])) (hpu : Itm.pure t = true) (hdl : Itm.deep t ≤ 1000) (hd8 : 8 < Itm.deep t) (hd : Itm.dec s.data.toList = .error 2) : Calls Try.prog 18 #[.string s] w (DecodeOk s w) := by
  have HC := hid (fun w => whole_any s w h)
  have HD := hid hd
  have HP := hid hp
  have HPU := hid hpu
  clear hd hp hpu
  go_enter Try.func18, Try.ntmps18
  go_wp2_with fail
  refine (HC.out _).mono ?_
  rintro e w1 ⟨hy, _, hbel⟩
  obtain ⟨v, rfl, hown⟩ := hy t HP.out
  have hrep := rep_of_own _ _ _ _ _ (Nat.le_refl _) hown
  obtain ⟨a2, cap2, rfl⟩ := ow_shape hown
  have HR := hid hrep
  clear hy hown hrep
  obtain ⟨hcc, hff⟩ := bcell hbel
  have hsz : w.heap.size < w1.heap.size := by have := hbel.size; simp at this; omega
  go_wp2_with fail
  refine (depthR_any _ _ t _ (rep_in HR.out ((Below.refl _ _).alloc (Nat.le_refl _) _)) HPU.out (by omega)).mono ?_
  rintro e w2 ⟨rfl, hbel2⟩
  obtain ⟨hcc2, hff2⟩ := bcell hbel2
  have hsz1 : w.heap.size < w1.heap.size + 1 := by omega
  go_wp2_with fail
  have hb3 : Below (w.alloc (.cells #[.bool false, .string ⟨#[]⟩, .slice none 0 0] 24)).heap.size (w.alloc (.cells #[.bool false, .string ⟨#[]⟩, .slice none 0 0] 24)) w2 :=
    (hbel.alloc hbel.size _).trans (hbel2.mono (by have := hbel.size; simp at this ⊢; omega))
  obtain ⟨c0, c1, c2⟩ := set3 (old_block hb3) (.bool false) (.string ⟨#[]⟩) (.slice none 0 0)
  exact bodyPost_ret (v := .tuple #[.agg #[.bool false, .string ⟨#[]⟩, .slice none 0 0], .int .i64 2]) (by simp [results, Try.results18, go_sem, c0, c1, c2]) rfl (decodeOk_err HD.out (box_below hb3 _ _ _))

set_option maxHeartbeats 800000 in
theorem decodeR_yes (s : ByteArray) (w : World) (h : s.size ≤ 1000) (t : Itm) (hp : Itm.parse s.size s.data.toList = some (t, [])) (hpu : Itm.pure t = true) (hd8 : Itm.deep t ≤ 8) (hd : Itm.dec s.data.toList = .ok t) : Calls Try.prog 18 #[.string s] w (DecodeOk s w) := by
  have HC := hid (fun w => whole_any s w h)
  have HD := hid hd
  have HP := hid hp
  have HPU := hid hpu
  clear hd hp hpu
  go_enter Try.func18, Try.ntmps18
  go_wp2_with fail
  refine (HC.out _).mono ?_
  rintro e w1 ⟨hy, _, hbel⟩
  obtain ⟨v, rfl, hown⟩ := hy t HP.out
  have hrep := rep_of_own _ _ _ _ _ (Nat.le_refl _) hown
  obtain ⟨a2, cap2, rfl⟩ := ow_shape hown
  have HR := hid hrep
  have HO := hid hown
  clear hy hown hrep
  obtain ⟨hcc, hff⟩ := bcell hbel
  have hsz : w.heap.size < w1.heap.size := by have := hbel.size; simp at this; omega
  go_wp2_with fail
  refine (depthR_any _ _ t _ (rep_in HR.out ((Below.refl _ _).alloc (Nat.le_refl _) _)) HPU.out (by omega)).mono ?_
  rintro e w2 ⟨rfl, hbel2⟩
  obtain ⟨hcc2, hff2⟩ := bcell hbel2
  have hsz1 : w.heap.size < w1.heap.size + 1 := by omega
  go_wp2_with fail
  have hb3 : Below (w.alloc (.cells #[.bool false, .string ⟨#[]⟩, .slice none 0 0] 24)).heap.size (w.alloc (.cells #[.bool false, .string ⟨#[]⟩, .slice none 0 0] 24)) w2 :=
    (hbel.alloc hbel.size _).trans (hbel2.mono (by have := hbel.size; simp at this ⊢; omega))
  obtain ⟨c0, c1, c2⟩ := set3 (old_block hb3) (.bool t.list) (.string ⟨t.bytes.toArray⟩) (.slice a2 t.items.length cap2)
  refine bodyPost_ret (v := .tuple #[.agg #[.bool t.list, .string ⟨t.bytes.toArray⟩, .slice a2 t.items.length cap2], .int .i64 0]) (by simp [results, Try.results18, go_sem, c0, c1, c2]) rfl ⟨fun n hn => ?_, fun t' ht' => ?_, box_below hb3 _ _ _⟩
  · rw [HD.out] at hn; cases hn
  · rw [HD.out] at ht'
    cases ht'
    refine ⟨_, rfl, ?_⟩
    rw [box_size]
    refine own_widen (lo := w.heap.size + 1) (hi := w1.heap.size) (ow_box _ _ _ ?_) (Nat.le_succ _) (by have := hbel2.size; simp at this; omega)
    refine own_frame _ _ _ _ _ ?_ (by have := HO.out; unfold Ow at this; simpa using this)
    intro k _ hk
    rw [hbel2.block k (by simp; omega)]
    exact Below.heap_alloc _ _ _ hk

/-- The document's own Decode answers as the program's does. -/
theorem decodeR_any (s : ByteArray) (w : World) : Calls Try.prog 18 #[.string s] w (DecodeOk s w) := by
  by_cases h : 1000 < s.size
  · exact decodeR_big s w h
  · rcases dec_cases s (by omega) with ⟨h1, h2⟩ | ⟨t, h1, h2, h3, ⟨h4, h5⟩ | ⟨h4, h5⟩⟩
    · exact decodeR_none s w (by omega) h1 h2
    · exact decodeR_deep s w (by omega) t h1 h2 h3 h4 h5
    · exact decodeR_yes s w (by omega) t h1 h2 h4 h5
end Go.Proofs.Ytbmohenjphmlgaa

/- The walks of copiedItem, text and sameItem (of the statements' own). -/
namespace Go.Proofs.Ytbmohenjphmlgaa
open Go.RowKit
set_option maxRecDepth 100000

theorem take_all_items (t : Itm) (k : Nat) (h : k = t.items.length) : t.items.take k = t.items := by subst h; simp

namespace Itm
theorem items_le_cnt (t : Itm) : t.items.length ≤ cnt t := by
  have := cntL_len t.items
  unfold cntL at this
  rw [cnt_eq]; omega

theorem kid_cnt (t : Itm) (k : Nat) (h : k < t.items.length) : cnt t.items[k] < cnt t := by
  have : ∀ (l : List Itm) (x : Itm), x ∈ l → cnt x ≤ (l.map cnt).sum := by
    intro l x hx
    induction l with
    | nil => simp at hx
    | cons y l ih =>
      simp only [List.map_cons, List.sum_cons]
      rcases List.mem_cons.1 hx with rfl | hx
      · omega
      · have := ih hx; omega
  have := this t.items _ (List.getElem_mem h)
  rw [cnt_eq t]; omega
end Itm

/-- Two boxes that were laid, one behind the other. -/
theorem two_boxes {w wr : World} {x0 x1 x2 y0 y1 y2 : Value} {E : TypeId} (hb : Below (w.heap.size + 2) ((w.alloc (.cells #[x0, x1, x2] E)).alloc (.cells #[y0, y1, y2] E)) wr) :
    wr.heap[w.heap.size]? = some (.cells #[x0, x1, x2] E) ∧ wr.heap[w.heap.size + 1]? = some (.cells #[y0, y1, y2] E) := by
  constructor
  · rw [hb.block _ (by omega), Below.heap_alloc _ _ _ (by simp), heap_alloc_new]
  · rw [hb.block _ (by omega)]
    have := heap_alloc_new (w.alloc (.cells #[x0, x1, x2] E)) (.cells #[y0, y1, y2] E)
    simpa using this

set_option maxHeartbeats 1600000 in
theorem copied_any (n : Nat) : ∀ (v : Value) (t : Itm) (w : World), Rep w.heap.size w n v t → Itm.cnt t ≤ 1000000 →
    Calls Try.prog 47 #[v] w fun e w' => ∃ v', e = .returned v' ∧ Ow w' n w.heap.size w'.heap.size v' t ∧ Below w.heap.size w w' := by
  induction n with
  | zero => intro v t w h; exact h.elim
  | succ n ih =>
    intro v t w hrep hcnt
    obtain ⟨a, cap, rfl, hm, hkids⟩ := hrep
    have HK := hid hkids
    have IH := hid ih
    have HCT := hid hcnt
    have hlen : t.items.length ≤ 1000000 := by have := Itm.items_le_cnt t; omega
    clear hkids ih hm hcnt
    go_enter Try.func47, Try.ntmps47
    go_wp2_with fail
    go_loopw [3, 4] (fun l i wr => ∃ k : Nat, k ≤ t.items.length ∧ i = .int .i64 k ∧ Hid (OwL wr n (w.heap.size + 2) wr.heap.size l (t.items.take k) ∧ Below (w.heap.size + 2) ((w.alloc (.cells #[.bool t.list, .string ⟨t.bytes.toArray⟩, .slice a t.items.length cap] 24)).alloc (.cells #[.bool false, .string ⟨#[]⟩, .slice none 0 0] 24)) wr)) (fun _ i _ => t.items.length - (intOf i).toNat)
    case atStart => exact ⟨0, Nat.zero_le _, rfl, ownL_nil _ _ _ _ _, Below.refl _ _⟩
    case round =>
      obtain ⟨k, hk, rfl, HH⟩ := hrel
      obtain ⟨bx, by1⟩ := two_boxes HH.out.2
      have x0 := cell_of_row _ _ 0 _ _ _ bx
      have x1 := cell_of_row _ _ 1 _ _ _ bx
      have x2 := cell_of_row _ _ 2 _ _ _ bx
      have HB0 : Hid (Below w.heap.size w wr) := (((Below.refl _ _).alloc (Nat.le_refl _) _).alloc (by simp) _).trans (HH.out.2.mono (by omega))
      have hwr : w.heap.size + 2 ≤ wr.heap.size := by have := HH.out.2.size; simpa using this
      obtain ⟨a4, cap4, hu⟩ := ownL_len HH.out.1
      rw [List.length_take, Nat.min_eq_left hk] at hu
      subst hu
      by_cases hlt : k < t.items.length
      · obtain ⟨b, off, c0, c1, c2, rfl, hbl, e0, e1, e2, hr⟩ := HK.out k hlt
        obtain ⟨a2, cap2, rfl, rfl, rfl⟩ := rep_shape hr
        have f0 := (HB0.out.cell (p := ⟨b, off + k * 3, none⟩) hbl).trans e0
        have f1 := (HB0.out.cell (p := ⟨b, off + k * 3 + 1, none⟩) hbl).trans e1
        have f2 := (HB0.out.cell (p := ⟨b, off + k * 3 + 2, none⟩) hbl).trans e2
        have HC := hid (IH.out _ t.items[k] wr (rep_in hr HB0.out) (by have := Itm.kid_cnt t k hlt; have := HCT.out; omega))
        have HT : Hid (t.items.take (k + 1) = t.items.take k ++ [t.items[k]]) := List.take_succ_eq_append_getElem hlt
        clear e0 e1 e2 hr bx by1
        go_wp2_with fail
        refine HC.out.mono ?_
        rintro e w1 ⟨v1, rfl, ho1, hb1⟩
        obtain ⟨a5, cap5, rfl⟩ := ow_shape ho1
        have HO1 := hid ho1
        have HB1 := hid hb1
        have H5 : Hid (w.heap.size + 2 ≤ w1.heap.size) := by have := hb1.size; rw [Hid]; omega
        clear ho1 hb1
        have HL := hid HH.out.1
        have hdl : (t.items.take k).length ≤ 1000000 := by rw [List.length_take]; omega
        go_wp2_with (at_builtin; refine wpList_append_one rfl (.tmp 12) (.tmp 19) rfl rfl rfl rfl HL.out HB1.out HO1.out (Nat.le_refl _) hwr (Nat.le_refl _) HB1.out.size H5.out ⟨rfl, rfl, rfl⟩ hdl ?_; intro v' w' hown2 hbel2)
        refine ⟨⟨k + 1, by omega, by go_num, ?_, ?_⟩, by simp [intOf]; omega⟩
        · rw [HT.out]; exact hown2
        · exact HH.out.2.trans ((HB1.out.mono hwr).trans hbel2)
      · have HKE := hid (show k = t.items.length by omega)
        have z0 := cell_of_row _ _ 0 _ _ _ by1
        have z1 := cell_of_row _ _ 1 _ _ _ by1
        have z2 := cell_of_row _ _ 2 _ _ _ by1
        have zf0 := frozen_of_row _ _ 0 _ _ by1
        have zf1 := frozen_of_row _ _ 1 _ _ by1
        have zf2 := frozen_of_row _ _ 2 _ _ by1
        have HBY := hid by1
        clear by1
        go_wp2_with fail
        obtain ⟨c0, c1, c2⟩ := set3 HBY.out (.bool t.list) (.string ⟨t.bytes.toArray⟩) (.slice a4 k cap4)
        refine bodyPost_ret (v := .agg #[.bool t.list, .string ⟨t.bytes.toArray⟩, .slice a4 k cap4]) (by simp [results, Try.results47, go_sem, c0, c1, c2]) rfl ⟨_, rfl, ?_, ?_⟩
        · rw [box_size]
          refine own_widen (lo := w.heap.size + 1 + 1) (ow_box _ _ _ ⟨_, rfl, ?_⟩) (by omega) (Nat.le_refl _)
          have := HH.out.1
          rw [HKE.out, List.take_length] at this
          rw [HKE.out]
          exact this
        · exact ((HB0.out.setCell (p := ⟨w.heap.size + 1, 0, none⟩) (by simp) _).setCell (p := ⟨w.heap.size + 1, 1, none⟩) (by simp) _).setCell (p := ⟨w.heap.size + 1, 2, none⟩) (by simp) _

/-- A mark's text. -/
def markText (q : Nat) : List UInt8 := [63, UInt8.ofNat (q % 256), UInt8.ofNat (q / 256 % 256)]

theorem run_mark (w : World) (q : Nat) : (convert 76 9 (.slice (some ⟨w.heap.size, 0, none⟩) 3 3)).run Try.prog (w.alloc (.cells #[.int .u8 63, .int .u8 ((q : Int) % 256), .int .u8 ((q : Int) / 256 % 256)] 5)) = .ok (.string ⟨(markText q).toArray⟩) (w.alloc (.cells #[.int .u8 63, .int .u8 ((q : Int) % 256), .int .u8 ((q : Int) / 256 % 256)] 5)) := by
  have h := World.ownsRow_lit (base := w.heap.size) (e := 5) (size := 1) w #[.int .u8 63, .int .u8 ((q : Int) % 256), .int .u8 ((q : Int) / 256 % 256)] 3 (Nat.le_refl _) (by unfold maxLen; omega) rfl
  have hb : Bown (w.alloc (.cells #[.int .u8 63, .int .u8 ((q : Int) % 256), .int .u8 ((q : Int) / 256 % 256)] 5)) w.heap.size (.slice (some ⟨w.heap.size, 0, none⟩) 3 3) (markText q) := by
    have e : Lib.byteCells (markText q) = [.int .u8 63, .int .u8 ((q : Int) % 256), .int .u8 ((q : Int) / 256 % 256)] := by
      simp [Lib.byteCells, markText]
    unfold Bown
    rw [e]
    simpa [markText] using h
  exact run_bytes_string (brd_of_bown hb)

set_option maxHeartbeats 400000 in
theorem text_any (q : Nat) (w : World) (hq : q ≤ 1000000000000) : Calls Try.prog 71 #[.int .i64 q] w fun e w' => e = .returned (.string ⟨(markText q).toArray⟩) ∧ Below w.heap.size w w' := by
  have hcv := fun w => run_mark w q
  go_enter Try.func71, Try.ntmps71
  go_wp2_with fail
  go_ret
  exact ⟨rfl, (Below.refl _ _).alloc (Nat.le_refl _) _⟩
set_option maxHeartbeats 1600000 in
theorem sameL_any (n : Nat) : ∀ (v v2 : Value) (t : Itm) (w : World), Rep w.heap.size w n v t → Rep w.heap.size w n v2 t →
    Calls Try.prog 19 #[v, v2] w fun e w' => e = .returned (.bool true) ∧ Below w.heap.size w w' := by
  induction n with
  | zero => intro v v2 t w h; exact h.elim
  | succ n ih =>
    intro v v2 t w hrep hrep2
    obtain ⟨a, cap, rfl, hm, hk1⟩ := hrep
    obtain ⟨a', cap', rfl, _, hk2⟩ := hrep2
    have H1 := hid hk1
    have H2 := hid hk2
    have IH := hid ih
    clear hk1 hk2 ih
    unfold maxLen at hm
    go_enter Try.func19, Try.ntmps19
    go_wp2_with fail
    go_loopw [5] (fun i wr => ∃ k : Nat, k ≤ t.items.length ∧ i = .int .i64 k ∧ Hid (Below (w.heap.size + 2) ((w.alloc (.cells #[.bool t.list, .string ⟨t.bytes.toArray⟩, .slice a t.items.length cap] 24)).alloc (.cells #[.bool t.list, .string ⟨t.bytes.toArray⟩, .slice a' t.items.length cap'] 24)) wr)) (fun i _ => t.items.length - (intOf i).toNat)
    case atStart => exact ⟨0, Nat.zero_le _, rfl, Below.refl _ _⟩
    case round =>
      obtain ⟨k, hk, rfl, HB⟩ := hrel
      have x2 : wr.cell? ⟨w.heap.size, 2, none⟩ = some (.slice a t.items.length cap) := by
        rw [HB.out.cell (p := ⟨w.heap.size, 2, none⟩) (by simp)]; simp
      have y2 : wr.cell? ⟨w.heap.size + 1, 2, none⟩ = some (.slice a' t.items.length cap') := by
        rw [HB.out.cell (p := ⟨w.heap.size + 1, 2, none⟩) (by simp)]; simp
      by_cases hlt : k < t.items.length
      · obtain ⟨b, off, c0, c1, c2, rfl, hbl, e0, e1, e2, hr⟩ := H1.out k hlt
        obtain ⟨b', off', d0, d1, d2, rfl, hbl', g0, g1, g2, hr'⟩ := H2.out k hlt
        obtain ⟨a2, cap2, rfl, rfl, rfl⟩ := rep_shape hr
        obtain ⟨a3, cap3, rfl, rfl, rfl⟩ := rep_shape hr'
        have hB0 : Below w.heap.size w wr := (((Below.refl _ _).alloc (Nat.le_refl _) _).alloc (by simp) _).trans (HB.out.mono (by omega))
        have f0 := (hB0.cell (p := ⟨b, off + k * 3, none⟩) hbl).trans e0
        have f1 := (hB0.cell (p := ⟨b, off + k * 3 + 1, none⟩) hbl).trans e1
        have f2 := (hB0.cell (p := ⟨b, off + k * 3 + 2, none⟩) hbl).trans e2
        have f0' := (hB0.cell (p := ⟨b', off' + k * 3, none⟩) hbl').trans g0
        have f1' := (hB0.cell (p := ⟨b', off' + k * 3 + 1, none⟩) hbl').trans g1
        have f2' := (hB0.cell (p := ⟨b', off' + k * 3 + 2, none⟩) hbl').trans g2
        have HR := hid hr
        have HR' := hid hr'
        have HB0 := hid hB0
        clear e0 e1 e2 g0 g1 g2 hr hr' hB0
        have HC : Hid (Calls Try.prog 19 #[.agg #[.bool t.items[k].list, .string ⟨t.items[k].bytes.toArray⟩, .slice a2 t.items[k].items.length cap2], .agg #[.bool t.items[k].list, .string ⟨t.items[k].bytes.toArray⟩, .slice a3 t.items[k].items.length cap3]] wr.drew fun e w' => e = .returned (.bool true) ∧ Below wr.heap.size wr w') :=
          (IH.out _ _ t.items[k] wr.drew (rep_in HR.out HB0.out.drew) (rep_in HR'.out HB0.out.drew)).mono fun e w' h => ⟨h.1, below_undrew h.2⟩
        go_wp2_with fail
        go_region_with (go_at_call 19; refine HC.out.mono ?_; rintro e w2 ⟨rfl, hbel⟩)
        all_goals (go_wp2_with fail; refine ⟨⟨k + 1, by omega, by go_num, HB.out.trans (hbel.mono (by have := HB.out.size; simp at this; omega))⟩, by simp [intOf]; omega⟩)
      · go_wp2_with fail
        go_ret
        exact ⟨rfl, (((Below.refl _ _).alloc (Nat.le_refl _) _).alloc (by simp) _).trans (HB.out.mono (by omega))⟩

/-- Two items that are the same, whatever levels each was read at. -/
theorem sameL_two (n m : Nat) (v v2 : Value) (t : Itm) (w : World) (h1 : Rep w.heap.size w n v t) (h2 : Rep w.heap.size w m v2 t) :
    Calls Try.prog 19 #[v, v2] w fun e w' => e = .returned (.bool true) ∧ Below w.heap.size w w' := by
  have k1 := rep_lift m h1
  have k2 := rep_lift n h2
  rw [Nat.add_comm] at k2
  exact sameL_any (n + m) v v2 t w k1 k2

end Go.Proofs.Ytbmohenjphmlgaa

/- Lists that their owner has marked: a slice of marks, marks appended to it. -/
namespace Go.Proofs.Ytbmohenjphmlgaa
open Go.RowKit
set_option maxRecDepth 100000

/-- The item that an owner marks a list with. -/
def markV (q : Nat) : Value := .agg #[.bool false, .string ⟨(markText q).toArray⟩, .slice none 0 0]

/-- The first n items of block g are marks. -/
def Marks (w : World) (q g n : Nat) : Prop := ∀ j, j < n →
  w.cell? ⟨g, j * 3, none⟩ = some (.bool false) ∧ w.cell? ⟨g, j * 3 + 1, none⟩ = some (.string ⟨(markText q).toArray⟩) ∧ w.cell? ⟨g, j * 3 + 2, none⟩ = some (.slice none 0 0)

/-- A slice all of whose items are marks. -/
def Mk (w : World) (q : Nat) (v : Value) : Prop := v = .slice none 0 0 ∨ ∃ g n cap, v = .slice (some ⟨g, 0, none⟩) n cap ∧ n ≤ maxLen ∧ g < w.heap.size ∧ Marks w q g n

theorem marks_frame {w w' : World} {q g n : Nat} (h : Marks w q g n) (hg : w'.heap[g]? = w.heap[g]?) : Marks w' q g n := by
  intro j hj
  obtain ⟨h0, h1, h2⟩ := h j hj
  exact ⟨by rw [World.cell?_of_block (a := ⟨g, _, none⟩) hg]; exact h0, by rw [World.cell?_of_block (a := ⟨g, _, none⟩) hg]; exact h1, by rw [World.cell?_of_block (a := ⟨g, _, none⟩) hg]; exact h2⟩

theorem mk_frame {w w' : World} {q : Nat} {v : Value} (h : Mk w q v) (hs : w.heap.size ≤ w'.heap.size) (hg : ∀ g, v.ownBlock = some g → w'.heap[g]? = w.heap[g]?) : Mk w' q v := by
  rcases h with h | ⟨g, n, cap, rfl, hn, hlt, hm⟩
  · exact .inl h
  · exact .inr ⟨g, n, cap, rfl, hn, by omega, marks_frame hm (hg g rfl)⟩

theorem tri_mark {xs : List Value} {j q : Nat} (h : tri xs j = markV q) : xs.getD (j * 3) default = .bool false ∧ xs.getD (j * 3 + 1) default = .string ⟨(markText q).toArray⟩ ∧ xs.getD (j * 3 + 2) default = .slice none 0 0 := by
  unfold tri markV at h
  simp only [Value.agg.injEq] at h
  have e : 3 * j = j * 3 := Nat.mul_comm _ _
  rw [e] at h
  have h0 := congrArg (·[0]?) h
  have h1 := congrArg (·[1]?) h
  have h2 := congrArg (·[2]?) h
  exact ⟨by simpa using h0, by simpa using h1, by simpa using h2⟩

theorem mk_of_owns {w : World} {base q n : Nat} {v : Value} {xs : List Value} (h : w.ownsRow base 24 3 v n xs) (hm : ∀ j, j < n → tri xs j = markV q) : Mk w q v := by
  have hx := h.1
  rcases id h.2 with ⟨hv, _⟩ | ⟨g, cap, cur, hv, hb, hg, hnc, hcm, hcs, ht⟩
  · exact .inl hv
  · subst hv
    have hlt := (h.lt g rfl).2
    refine .inr ⟨g, n, cap, rfl, by omega, hlt, fun j hj => ?_⟩
    obtain ⟨h0, h1, h2⟩ := tri_mark (hm j hj)
    have key : ∀ p, p < n * 3 → w.cell? ⟨g, p, none⟩ = some (xs.getD p default) := by
      intro p hp
      rw [h.cellAt p hp, List.getD_eq_getElem?_getD, List.getElem?_eq_getElem (by omega)]; rfl
    exact ⟨by rw [key _ (by omega), h0], by rw [key _ (by omega), h1], by rw [key _ (by omega), h2]⟩

/-- Marks appended to a slice of marks that has its own row: the slice stays, what was marked stays marked, the new slice is marked. -/
theorem run_append_marks (w : World) (base q : Nat) (v : Value) (n : Nat) (xs : List Value) (ty : TypeId) (hown : w.ownsRow base 24 3 v n xs) (hm : ∀ j, j < n → tri xs j = markV q)
    (a : Addr) (m c : Nat) (news : List Value) (hl : news.length = m * 3) (hnews : ∀ j u, news[j]? = some u → w.cell? (a.add j) = some u) (h1 : ∀ u ∈ news, u.oneCell' = true) (hq : ∀ j, j < m → tri news j = markV q)
    (h63 : n + m ≤ 1000000000) :
    ∃ v' w', (Builtin.append_ #[22, 22] ty #[v, .slice (some a) m c]).run Try.prog w = .ok v' w' ∧ w'.ownsRow base 24 3 v n xs ∧ Mk w' q v' ∧ (∀ u, Mk w q u → Mk w' q u) ∧ w.grownBy w' v.ownBlock ∧ Newer w v v' := by
  obtain ⟨i0, hi, hz0, hz1, hz2⟩ := info_parts infoItem
  have h63' : n + m ≤ maxLen := by unfold maxLen; omega
  have hby : (n + m) * 48 ≤ 140737488355328 := by omega
  have hall : ∀ j, j < n + m → tri (xs ++ news) j = markV q := by
    intro j hj
    by_cases hjn : j < n
    · rw [tri_left xs news j n hown.1 hjn]; exact hm j hjn
    · have h := hq (j - n) (by omega)
      have e : tri (xs ++ news) j = tri news (j - n) := by
        unfold tri
        have hx := hown.1
        simp only [List.getD_eq_getElem?_getD]
        rw [List.getElem?_append_right (by omega), List.getElem?_append_right (by omega), List.getElem?_append_right (by omega)]
        have e0 : 3 * j - xs.length = 3 * (j - n) := by omega
        have e1 : 3 * j + 1 - xs.length = 3 * (j - n) + 1 := by omega
        have e2 : 3 * j + 2 - xs.length = 3 * (j - n) + 2 := by omega
        rw [e0, e1, e2]
      rw [e]; exact h
  rcases hown.2 with ⟨rfl, rfl⟩ | ⟨g, cap, cur, rfl, hbg, hg, hnc, hcm, hcs, htake⟩
  · have hx : xs = [] := List.eq_nil_of_length_eq_zero (by simpa using hown.1)
    subst hx
    obtain ⟨v', w', hr, ho, hgr, _⟩ := run_append_own (P := Try.prog) w w.heap.size 22 ty 24 i0 _ 3 48 Try.underlying22 hi hz0 hz1 hz2 rfl (by decide) (.slice none 0 0) 0 [] (World.ownsRow_nil w _ 24 3) a m c news hl hnews h1 h63' hby (Nat.le_refl _)
    refine ⟨v', w', hr, World.ownsRow_nil _ _ _ _, mk_of_owns ho hall, ?_, hgr, owns_newer ho (fun _ => rfl)⟩
    intro u hu
    refine mk_frame hu hgr.size (fun k hk => ?_)
    rcases hu with rfl | ⟨g, n, cap, rfl, _, hlt, _⟩
    · simp [Value.ownBlock] at hk
    · simp only [Value.ownBlock, Option.some.injEq] at hk
      subst hk
      exact hgr.block _ hlt (by simp [Value.ownBlock])
  · by_cases hroom : n + m ≤ cap
    · have hlen : (xs ++ news).length = (n + m) * 3 := by rw [List.length_append, hown.1, hl, Nat.add_mul]
      have hx := hown.1
      have hfit : n * i0.size + news.length ≤ cur.size := by rw [hl, hcs, hz1]; omega
      have hr := run_append_room (P := Try.prog) w 22 ty 24 i0 Try.underlying22 hi g n cap cur hg a m c news (by rw [hz1]; exact hl) hnews h1 hroom hfit
      rw [hz1, htake] at hr
      have hblk := setRow_heap w g cur (xs ++ news ++ cur.toList.drop (n * 3 + news.length)).toArray 24 _ hg
      have hgr : w.grownBy (w.setRow g (xs ++ news ++ cur.toList.drop (n * 3 + news.length)).toArray) (Value.slice (some ⟨g, 0, none⟩) n cap).ownBlock := ⟨rfl, rfl, rfl, by simp, fun k _ hk => setRow_other w g k _ (fun e => hk (by simp [Value.ownBlock, e]))⟩
      have hsz : (xs ++ news ++ cur.toList.drop (n * 3 + news.length)).toArray.size = cap * 3 := by
        simp only [List.size_toArray, List.length_append, List.length_drop, Array.length_toList, hx, hl, hcs]
        omega
      have hnew : (w.setRow g (xs ++ news ++ cur.toList.drop (n * 3 + news.length)).toArray).ownsRow base 24 3 (.slice (some ⟨g, 0, none⟩) (n + m) cap) (n + m) (xs ++ news) :=
        ⟨hlen, .inr ⟨g, cap, _, rfl, hbg, hblk, hroom, hcm, hsz, by rw [← hlen]; exact List.take_left⟩⟩
      have hold : (w.setRow g (xs ++ news ++ cur.toList.drop (n * 3 + news.length)).toArray).ownsRow base 24 3 (.slice (some ⟨g, 0, none⟩) n cap) n xs :=
        ⟨hx, .inr ⟨g, cap, _, rfl, hbg, hblk, hnc, hcm, hsz, by rw [← hx]; simp only [List.append_assoc]; exact List.take_left⟩⟩
      refine ⟨_, _, hr, hold, mk_of_owns hnew hall, ?_, hgr, .inl rfl⟩
      intro u hu
      rcases hu with rfl | ⟨g2, n2, cap2, rfl, hn2, hlt2, hm2⟩
      · exact .inl rfl
      · by_cases hg2 : g2 = g
        · subst hg2
          refine .inr ⟨g2, n2, cap2, rfl, hn2, by simpa [World.setRow] using hlt2, fun j hj => ?_⟩
          by_cases hjn : j < n + m
          · have key : ∀ p, p < (n + m) * 3 → (w.setRow g2 (xs ++ news ++ cur.toList.drop (n * 3 + news.length)).toArray).cell? ⟨g2, p, none⟩ = some ((xs ++ news).getD p default) := by
              intro p hp
              rw [hnew.cellAt p hp, List.getD_eq_getElem?_getD, List.getElem?_eq_getElem (by omega)]; rfl
            obtain ⟨t0, t1, t2⟩ := tri_mark (hall j hjn)
            exact ⟨by rw [key _ (by omega), t0], by rw [key _ (by omega), t1], by rw [key _ (by omega), t2]⟩
          · have key : ∀ p, (n + m) * 3 ≤ p → (w.setRow g2 (xs ++ news ++ cur.toList.drop (n * 3 + news.length)).toArray).cell? ⟨g2, p, none⟩ = w.cell? ⟨g2, p, none⟩ := by
              intro p hp
              rw [cell_of_row _ _ p _ _ _ hblk, cell_of_row _ _ p _ _ _ hg]
              have e1 : (xs ++ news ++ cur.toList.drop (n * 3 + news.length)).toArray[p]? = (xs ++ news ++ cur.toList.drop (n * 3 + news.length))[p]? := by simp
              rw [e1, List.getElem?_append_right (by omega), List.getElem?_drop, hlen]
              have e2 : n * 3 + news.length + (p - (n + m) * 3) = p := by omega
              rw [e2]; simp
            obtain ⟨t0, t1, t2⟩ := hm2 j hj
            exact ⟨by rw [key _ (by omega), t0], by rw [key _ (by omega), t1], by rw [key _ (by omega), t2]⟩
        · exact mk_frame (.inr ⟨g2, n2, cap2, rfl, hn2, hlt2, hm2⟩) hgr.size (fun k hk => hgr.block k (by simp only [Value.ownBlock, Option.some.injEq] at hk; omega) (by simp only [Value.ownBlock, Option.some.injEq] at hk; simp only [Value.ownBlock, ne_eq, Option.some.injEq]; omega))
    · have holds : ∀ j u, xs[j]? = some u → w.cell? ((⟨g, 0, none⟩ : Addr).add j) = some u := hown.cells (g := g) rfl
      obtain ⟨v', w', hr, ho, hgr⟩ := run_append_arg_grows (P := Try.prog) w 22 ty 24 i0 _ 3 48 Try.underlying22 hi hz0 hz1 hz2 rfl (by decide) ⟨g, 0, none⟩ n cap xs hown.1 holds a m c news hl hnews (by omega) h63' hby
      have hall2 : ∀ k, k < w.heap.size → w'.heap[k]? = w.heap[k]? := fun k hk => hgr.block k hk (by simp)
      refine ⟨v', w', hr, owns_frame hown (fun k hk => hall2 k (hown.lt k hk).2), mk_of_owns ho hall, ?_, ⟨hgr.os, hgr.tape, hgr.output, hgr.size, fun k hk _ => hall2 k hk⟩, owns_newer ho ?_⟩
      · intro u hu
        refine mk_frame hu hgr.size (fun k hk => ?_)
        rcases hu with rfl | ⟨g2, n2, cap2, rfl, _, hlt2, _⟩
        · simp [Value.ownBlock] at hk
        · simp only [Value.ownBlock, Option.some.injEq] at hk
          subst hk
          exact hall2 _ hlt2
      · intro hno
        rcases ho.2 with ⟨rfl, h0⟩ | ⟨g', cap', cur', rfl, _⟩
        · omega
        · simp [Value.ownBlock] at hno

theorem wpList_append_marks {ops : Array Oper} {rest : List Oper} {o : Oper} {act : Act} {Q : Exit → Act → World → Prop} (hgd : o.guard = none) (s x : Operand)
    (hop : o.op = .call { callee := .builtin .append, args := #[s, x], argTypes := #[22, 22] })
    {w : World} {base q : Nat} {v : Value} {n : Nat} {xs : List Value} (hs : act.eval s = v) (hown : w.ownsRow base 24 3 v n xs) (hm : ∀ j, j < n → tri xs j = markV q)
    (a : Addr) (m c : Nat) (news : List Value) (hx : act.eval x = .slice (some a) m c) (hl : news.length = m * 3) (hnews : ∀ j u, news[j]? = some u → w.cell? (a.add j) = some u) (h1 : ∀ u ∈ news, u.oneCell' = true) (hq : ∀ j, j < m → tri news j = markV q)
    (h63 : n + m ≤ 1000000000)
    (h : ∀ v' w', w'.ownsRow base 24 3 v n xs → Mk w' q v' → (∀ u, Mk w q u → Mk w' q u) → w.grownBy w' v.ownBlock → Newer w v v' → wpList Try.prog ops Q rest (act.put o.dst v') w') :
    wpList Try.prog ops Q (o :: rest) act w := by
  refine wpList_plain hgd fun K hK => ?_
  obtain ⟨v', w', hr, h2, h3, h4, h5, h6⟩ := run_append_marks w base q v n xs o.type hown hm a m c news hl hnews h1 hq h63
  unfold Oper.wp execOp
  simp only [hop, resolve, invoke, builtin, Sem.run_bind, Sem.run_pure, Result.andThen_ok, List.map_toArray, List.map_cons, List.map_nil, hs, hx, hr]
  exact hK _ _ (h v' w' h2 h3 h4 h5 h6)
end Go.Proofs.Ytbmohenjphmlgaa
