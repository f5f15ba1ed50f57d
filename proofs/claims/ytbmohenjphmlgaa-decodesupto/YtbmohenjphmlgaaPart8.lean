/- Part 8 of a proof: what the last text needs. -/
import Derived.Test.YtbmohenjphmlgaaPart7
/- The walks of the statement Back's own helpers: sameItem, of two items that are the same; short. -/
namespace Go.Proofs.Ytbmohenjphmlgaa
open Go.RowKit
set_option maxRecDepth 100000

set_option maxHeartbeats 1600000 in
theorem same_any (n : Nat) : ∀ (v v2 : Value) (t : Itm) (w : World), Rep w.heap.size w n v t → Rep w.heap.size w n v2 t →
    Calls Try.prog 37 #[v, v2] w fun e w' => e = .returned (.bool true) ∧ Below w.heap.size w w' := by
  induction n with
  | zero => intro v v2 t w h; exact h.elim
  | succ n ih =>
    intro v v2 t w hrep hrep2
    obtain ⟨a, cap, rfl, hm, hk1⟩ := hrep
    obtain ⟨a', cap', rfl, _, hk2⟩ := hrep2
    have H1 := hid hk1
    have H2 := hid hk2
    have IH := hid ih
    clear hk1 hk2 ih
    unfold maxLen at hm
    go_enter Try.func37, Try.ntmps37
    go_wp2_with fail
    go_loopw [5] (fun i wr => ∃ k : Nat, k ≤ t.items.length ∧ i = .int .i64 k ∧ Hid (Below (w.heap.size + 2) ((w.alloc (.cells #[.bool t.list, .string ⟨t.bytes.toArray⟩, .slice a t.items.length cap] 24)).alloc (.cells #[.bool t.list, .string ⟨t.bytes.toArray⟩, .slice a' t.items.length cap'] 24)) wr)) (fun i _ => t.items.length - (intOf i).toNat)
    case atStart => exact ⟨0, Nat.zero_le _, rfl, Below.refl _ _⟩
    case round =>
      obtain ⟨k, hk, rfl, HB⟩ := hrel
      have x2 : wr.cell? ⟨w.heap.size, 2, none⟩ = some (.slice a t.items.length cap) := by
        rw [HB.out.cell (p := ⟨w.heap.size, 2, none⟩) (by simp)]; simp
      have y2 : wr.cell? ⟨w.heap.size + 1, 2, none⟩ = some (.slice a' t.items.length cap') := by
        rw [HB.out.cell (p := ⟨w.heap.size + 1, 2, none⟩) (by simp)]; simp
      by_cases hlt : k < t.items.length
      · obtain ⟨b, off, c0, c1, c2, rfl, hbl, e0, e1, e2, hr⟩ := H1.out k hlt
        obtain ⟨b', off', d0, d1, d2, rfl, hbl', g0, g1, g2, hr'⟩ := H2.out k hlt
        obtain ⟨a2, cap2, rfl, rfl, rfl⟩ := rep_shape hr
        obtain ⟨a3, cap3, rfl, rfl, rfl⟩ := rep_shape hr'
        have hB0 : Below w.heap.size w wr := (((Below.refl _ _).alloc (Nat.le_refl _) _).alloc (by simp) _).trans (HB.out.mono (by omega))
        have f0 := (hB0.cell (p := ⟨b, off + k * 3, none⟩) hbl).trans e0
        have f1 := (hB0.cell (p := ⟨b, off + k * 3 + 1, none⟩) hbl).trans e1
        have f2 := (hB0.cell (p := ⟨b, off + k * 3 + 2, none⟩) hbl).trans e2
        have f0' := (hB0.cell (p := ⟨b', off' + k * 3, none⟩) hbl').trans g0
        have f1' := (hB0.cell (p := ⟨b', off' + k * 3 + 1, none⟩) hbl').trans g1
        have f2' := (hB0.cell (p := ⟨b', off' + k * 3 + 2, none⟩) hbl').trans g2
        have HR := hid hr
        have HR' := hid hr'
        have HB0 := hid hB0
        clear e0 e1 e2 g0 g1 g2 hr hr' hB0
        have HC : Hid (Calls Try.prog 37 #[.agg #[.bool t.items[k].list, .string ⟨t.items[k].bytes.toArray⟩, .slice a2 t.items[k].items.length cap2], .agg #[.bool t.items[k].list, .string ⟨t.items[k].bytes.toArray⟩, .slice a3 t.items[k].items.length cap3]] wr.drew fun e w' => e = .returned (.bool true) ∧ Below wr.heap.size wr w') :=
          (IH.out _ _ t.items[k] wr.drew (rep_in HR.out HB0.out.drew) (rep_in HR'.out HB0.out.drew)).mono fun e w' h => ⟨h.1, below_undrew h.2⟩
        go_wp2_with fail
        go_region_with (go_at_call 37; refine HC.out.mono ?_; rintro e w2 ⟨rfl, hbel⟩)
        all_goals (go_wp2_with fail; refine ⟨⟨k + 1, by omega, by go_num, HB.out.trans (hbel.mono (by have := HB.out.size; simp at this; omega))⟩, by simp [intOf]; omega⟩)
      · go_wp2_with fail
        go_ret
        exact ⟨rfl, (((Below.refl _ _).alloc (Nat.le_refl _) _).alloc (by simp) _).trans (HB.out.mono (by omega))⟩

set_option maxHeartbeats 400000 in
theorem short_any (s : ByteArray) (w : World) (hs : s.size ≤ maxLen) :
    Calls Try.prog 36 #[.string s, .int .i64 12] w fun e w' => ∃ r : ByteArray, e = .returned (.string r) ∧ r.size ≤ 12 ∧ w' = w := by
  unfold maxLen at hs
  by_cases h : 12 < s.size
  · have h' : (12 : Int) < (s.size : Int) := by omega
    go_enter Try.func36, Try.ntmps36
    go_wp2_with fail
    go_ret
    exact ⟨_, rfl, by simp; omega, rfl⟩
  · have h' : ¬ (12 : Int) < (s.size : Int) := by omega
    go_enter Try.func36, Try.ntmps36
    go_wp2_with fail
    go_ret
    exact ⟨_, rfl, by omega, rfl⟩

theorem rep_lift {B : Nat} {w : World} {v : Value} {t : Itm} {n : Nat} (m : Nat) (h : Rep B w n v t) : Rep B w (n + m) v t := by
  induction m with
  | zero => exact h
  | succ m ih => exact rep_more _ _ _ ih

/-- Two items that are the same, whatever levels each was read at. -/
theorem same_two (n m : Nat) (v v2 : Value) (t : Itm) (w : World) (h1 : Rep w.heap.size w n v t) (h2 : Rep w.heap.size w m v2 t) :
    Calls Try.prog 37 #[v, v2] w fun e w' => e = .returned (.bool true) ∧ Below w.heap.size w w' := by
  have k1 := rep_lift m h1
  have k2 := rep_lift n h2
  rw [Nat.add_comm] at k2
  exact same_any (n + m) v v2 t w k1 k2


end Go.Proofs.Ytbmohenjphmlgaa

/- The walks of the document's own 'part': the item at the beginning of some bytes, as 'parse' says; what is read of a head of one byte. -/
namespace Go.Proofs.Ytbmohenjphmlgaa
open Go.RowKit
set_option maxRecDepth 100000

/-- What 'part' answers, where 'parse' says p. -/
def PartPost (p : Option (Itm × List UInt8)) (f : Nat) (w : World) (e : Ending) (w' : World) : Prop :=
  (p = none → e = .returned (.tuple #[.agg #[.bool false, .string ⟨#[]⟩, .slice none 0 0], .string ⟨#[]⟩, .bool false])) ∧
  (∀ t rest, p = some (t, rest) → ∃ v, e = .returned (.tuple #[v, .string ⟨rest.toArray⟩, .bool true]) ∧ Ow w' f w.heap.size w'.heap.size v t) ∧ Below w.heap.size w w'

theorem partPost_no {p : Option (Itm × List UInt8)} {f : Nat} {w w' : World} (h : p = none) (hb : Below w.heap.size w w') :
    PartPost p f w (.returned (.tuple #[.agg #[.bool false, .string ⟨#[]⟩, .slice none 0 0], .string ⟨#[]⟩, .bool false])) w' := by
  subst h
  exact ⟨fun _ => rfl, fun t rest h => (by cases h), hb⟩

theorem partPost_yes {p : Option (Itm × List UInt8)} {f : Nat} {w w' : World} {t : Itm} {rest : List UInt8} {v : Value} {r : ByteArray} (h : p = some (t, rest)) (hr : r.data.toList = rest) (ho : Ow w' f w.heap.size w'.heap.size v t) (hb : Below w.heap.size w w') :
    PartPost p f w (.returned (.tuple #[v, .string r, .bool true])) w' := by
  subst h
  refine ⟨fun h => (by cases h), fun t' rest' h => ?_, hb⟩
  cases h
  exact ⟨v, by rw [str_eq hr], ho⟩

/-- Bytes of a length that takes more than four bytes: too few. -/
theorem cutP_many {base : Nat} {s : List UInt8} (hs : s.length ≤ 1000) (hk : 4 < (s.getD 0 0).toNat - base - 55) : Itm.cutP base s = none := by
  unfold Itm.cutP
  rw [if_neg (by omega)]
  generalize (s.getD 0 0).toNat - base - 55 = k at *
  by_cases h : (s.drop 1).length < k ∨ ((s.drop 1).getD 0 0).toNat = 0
  · rw [if_pos h]
  · rw [if_neg h, if_pos]
    have hlt : ((s.drop 1).take k).length = k := by rw [List.length_take]; omega
    have hb := Itm.be_val ((s.drop 1).take k) (by omega) (by
      have : ((s.drop 1).take k).getD 0 0 = (s.drop 1).getD 0 0 := by
        have hk0 : 0 < k := by omega
        simp [List.getD_eq_getElem?_getD, hk0]
      rw [this]; omega)
    refine .inr ?_
    have hge : 256 ^ 4 ≤ Itm.val ((s.drop 1).take k) := by
      refine Nat.le_of_not_lt fun hc => ?_
      have := Itm.be_len_le _ 4 hc (by omega)
      rw [hb, hlt] at this
      omega
    have : ((s.drop 1).drop k).length ≤ 1000 := by simp; omega
    omega

/-- Where a list's items are gathered. -/
def PartRel (f N : Nat) (o : Option (List Itm)) (w wr : World) (r : ByteArray) (m : Nat) (a : Option Addr) (cap : Nat) (done : List Itm) : Prop :=
  wr.heap[w.heap.size + 1]? = some (.cells #[.bool true, .string ⟨#[]⟩, .slice a done.length cap] 24 (0, 0)) ∧ OwL wr f (w.heap.size + 2) wr.heap.size (.slice a done.length cap) done ∧
  Below (w.alloc (.cells #[.bool false, .string ⟨#[]⟩, .slice none 0 0] 24)).heap.size (w.alloc (.cells #[.bool false, .string ⟨#[]⟩, .slice none 0 0] 24)) wr ∧ w.heap.size + 2 ≤ wr.heap.size ∧
  o = (Itm.loopP (Itm.parse f) m r.data.toList).map (done ++ ·) ∧ r.size ≤ m ∧ r.size + done.length ≤ N

theorem part_start (f : Nat) (o : Option (List Itm)) (w : World) (r : ByteArray) (ho : o = Itm.loopP (Itm.parse f) r.size r.data.toList) :
    PartRel f r.size o w ((w.alloc (.cells #[.bool false, .string ⟨#[]⟩, .slice none 0 0] 24)).alloc (.cells #[.bool true, .string ⟨#[]⟩, .slice none 0 0] 24)) r r.size none 0 [] := by
  refine ⟨?_, ownL_nil _ _ _ _ _, (Below.refl _ _).alloc (Nat.le_refl _) _, by simp, by rw [ho]; simp, Nat.le_refl _, by simp⟩
  have := heap_alloc_new (w.alloc (.cells #[.bool false, .string ⟨#[]⟩, .slice none 0 0] 24)) (.cells #[.bool true, .string ⟨#[]⟩, .slice none 0 0] 24)
  simpa using this

theorem part_step {f N : Nat} {o : Option (List Itm)} {w wr w3 w' : World} {r r2 : ByteArray} {m : Nat} {a a9 : Option Addr} {cap c9 : Nat} {done : List Itm} {t : Itm} (HH : PartRel f N o w wr r (m + 1) a cap done)
    (hne : r.data.toList ≠ []) (hp : Itm.parse f r.data.toList = some (t, r2.data.toList))
    (hown : OwL w' f (w.heap.size + 2) w'.heap.size (.slice a9 (done ++ [t]).length c9) (done ++ [t])) (hb3 : Below wr.heap.size wr w3) (hb : Below (w.heap.size + 2) w3 w')
    (hblk : w'.heap[w.heap.size + 1]? = some (.cells #[.bool true, .string ⟨#[]⟩, .slice a done.length cap] 24 (0, 0))) :
    PartRel f N o w (w'.setCell ⟨w.heap.size + 1, 2, none⟩ (.slice a9 (done.length + 1) c9)) r2 m a9 c9 (done ++ [t]) := by
  obtain ⟨q1, q2, q3, q4, q5, q6, q7⟩ := HH
  have hl : (done ++ [t]).length = done.length + 1 := by simp
  have hs3 := hb3.size
  have hs4 := hb.size
  have hsound := (Itm.parse_sound f _ _ _ hp).1
  have hlen : r.size = (Itm.enc t).length + r2.size := by rw [← ba_len, hsound, List.length_append, ba_len]
  have hpos : 0 < (Itm.enc t).length := List.length_pos_iff.2 (Itm.enc_ne t)
  refine ⟨?_, ?_, ?_, ?_, ?_, by omega, by rw [hl]; omega⟩
  · rw [heap_setCell_same _ _ 2 _ _ _ hblk, hl]; rfl
  · have e : (w'.setCell ⟨w.heap.size + 1, 2, none⟩ (.slice a9 (done.length + 1) c9)).heap.size = w'.heap.size := by simp [World.setCell]
    rw [e]
    refine ownL_mono hown (fun g hg => ?_) (fun lo hi v x h1 h2 _ hp => own_frame _ _ _ _ _ (fun k hk _ => Below.heap_setCell _ _ _ _ (by simp; omega)) hp)
    obtain ⟨xs, ho, _⟩ := hown
    have := (ho.lt g hg).1
    exact Below.heap_setCell _ _ _ _ (by simp; omega)
  · exact ((q3.trans (hb3.mono (by simp; omega))).trans (hb.mono (by simp))).setCell (p := ⟨w.heap.size + 1, 2, none⟩) (by simp) _
  · have e : (w'.setCell ⟨w.heap.size + 1, 2, none⟩ (.slice a9 (done.length + 1) c9)).heap.size = w'.heap.size := by simp [World.setCell]
    rw [e]; omega
  · rw [q5]
    conv => lhs; rw [show Itm.loopP (Itm.parse f) (m + 1) r.data.toList = (Itm.loopP (Itm.parse f) m r2.data.toList).map (t :: ·) by
      conv => lhs; unfold Itm.loopP
      rw [if_neg (by simpa using hne), hp]]
    rw [Option.map_map]
    congr 1
    funext l
    simp

theorem part_stop {f N : Nat} {o : Option (List Itm)} {w wr : World} {r : ByteArray} {m : Nat} {a : Option Addr} {cap : Nat} {done : List Itm} (HH : PartRel f N o w wr r m a cap done) (hne : r.data.toList ≠ []) (hp : Itm.parse f r.data.toList = none) : o = none := by
  obtain ⟨q1, q2, q3, q4, q5, q6, q7⟩ := HH
  cases m with
  | zero => exact absurd (List.eq_nil_of_length_eq_zero (by rw [ba_len]; omega)) hne
  | succ m =>
    rw [q5]; unfold Itm.loopP
    rw [if_neg (by simpa using hne), hp]; rfl

theorem part_end {f N : Nat} {o : Option (List Itm)} {w wr : World} {r : ByteArray} {m : Nat} {a : Option Addr} {cap : Nat} {done : List Itm} (HH : PartRel f N o w wr r m a cap done) (hne : r.data.toList = []) : o = some done := by
  obtain ⟨q1, q2, q3, q4, q5, q6, q7⟩ := HH
  rw [q5, hne]
  cases m <;> simp [Itm.loopP]

section
variable (f : Nat) (s : ByteArray) (w : World) (p : Option (Itm × List UInt8))

set_option maxHeartbeats 400000 in
theorem part_empty (hb : s.toList.isEmpty = true) (hp : Hid (p = none)) : Calls Try.prog 69 #[.string s] w (PartPost p f w) := by
  go_enter Try.func69, Try.ntmps69
  go_wp2_with fail
  exact bodyPost_ret (v := .tuple #[.agg #[.bool false, .string ⟨#[]⟩, .slice none 0 0], .string ⟨#[]⟩, .bool false]) (by simp [results, Try.results69, go_sem]) rfl (partPost_no hp.out ((Below.refl _ _).alloc (Nat.le_refl _) _))

set_option maxHeartbeats 800000 in
theorem part_byte (h2 : s.size ≤ 1000000) (hb : s.toList.isEmpty = false) (h1 : 0 < s.size) (hlt : s[0].toNat < 128) (hp : Hid (p = some (⟨false, s.data.toList.take 1, []⟩, s.data.toList.drop 1))) :
    Calls Try.prog 69 #[.string s] w (PartPost p (f + 1) w) := by
  have hlt' : (s[0].toNat : Int) < 128 := by omega
  go_enter Try.func69, Try.ntmps69
  go_wp2_with fail
  go_region
  all_goals go_wp2_with fail
  all_goals
    exact bodyPost_ret (v := .tuple #[.agg #[.bool false, .string (s.extract 0 1), .slice none 0 0], .string (s.extract 1 s.size), .bool true]) (by simp [results, Try.results69, go_sem]) rfl
      (partPost_yes hp.out (Lib.extract_to_end _ _) (ow_bytes _ _ _ _ _ _ (by rw [Lib.extract_data]; simp)) ((Below.refl _ _).alloc (Nat.le_refl _) _).drew)

set_option maxHeartbeats 1600000 in
theorem part_shortNo128 (n : Nat) (h2 : s.size ≤ 1000) (hb : s.toList.isEmpty = false) (h1 : 0 < s.size) (hge : 128 ≤ s[0].toNat) (hlt : s[0].toNat < 192) (hn : Hid (s[0].toNat - 128 = n)) (h55 : n ≤ 55) (hle : s.size - 1 < n) (hp : Hid (p = none)) :
    Calls Try.prog 69 #[.string s] w (PartPost p f w) := by
  have h8 := s[0].toNat_lt
  have hge1 : ¬ (s[0].toNat : Int) < 128 := by omega
  have hge2 : ¬ (192 : Int) ≤ (s[0].toNat : Int) := by omega
  have hE : ((s[0].toNat : Int) - 128) = (n : Int) := by have := hn.out; omega
  have c1 : (n : Int) ≤ 55 := by omega
  have c3 : ((s.size - 1 : Nat) : Int) < (n : Int) := by omega
  go_enter Try.func69, Try.ntmps69
  go_wp2_with fail
  exact bodyPost_ret (v := .tuple #[.agg #[.bool false, .string ⟨#[]⟩, .slice none 0 0], .string ⟨#[]⟩, .bool false]) (by simp [results, Try.results69, go_sem]) rfl (partPost_no hp.out ((Below.refl _ _).alloc (Nat.le_refl _) _))

set_option maxHeartbeats 1600000 in
theorem part_shortNo192 (n : Nat) (h2 : s.size ≤ 1000) (hb : s.toList.isEmpty = false) (h1 : 0 < s.size) (hge : 192 ≤ s[0].toNat) (hn : Hid (s[0].toNat - 192 = n)) (h55 : n ≤ 55) (hle : s.size - 1 < n) (hp : Hid (p = none)) :
    Calls Try.prog 69 #[.string s] w (PartPost p f w) := by
  have h8 := s[0].toNat_lt
  have hge1 : ¬ (s[0].toNat : Int) < 128 := by omega
  have hge2 : (192 : Int) ≤ (s[0].toNat : Int) := by omega
  have hE : ((s[0].toNat : Int) - 192) = (n : Int) := by have := hn.out; omega
  have c1 : (n : Int) ≤ 55 := by omega
  have c3 : ((s.size - 1 : Nat) : Int) < (n : Int) := by omega
  go_enter Try.func69, Try.ntmps69
  go_wp2_with fail
  exact bodyPost_ret (v := .tuple #[.agg #[.bool false, .string ⟨#[]⟩, .slice none 0 0], .string ⟨#[]⟩, .bool false]) (by simp [results, Try.results69, go_sem]) rfl (partPost_no hp.out ((Below.refl _ _).alloc (Nat.le_refl _) _))

set_option maxHeartbeats 1600000 in
theorem part_short128 (n : Nat) (h2 : s.size ≤ 1000) (hb : s.toList.isEmpty = false) (h1 : 0 < s.size) (hge : 128 ≤ s[0].toNat) (hlt : s[0].toNat < 192) (hn : Hid (s[0].toNat - 128 = n)) (h55 : n ≤ 55) (hle : n ≤ s.size - 1) (hst : (n : Int) ≠ 1) (hp : Hid (p = some (⟨false, (s.data.toList.drop 1).take n, []⟩, (s.data.toList.drop 1).drop n))) :
    Calls Try.prog 69 #[.string s] w (PartPost p (f + 1) w) := by
  have h8 := s[0].toNat_lt
  have hge1 : ¬ (s[0].toNat : Int) < 128 := by omega
  have hge2 : ¬ (192 : Int) ≤ (s[0].toNat : Int) := by omega
  have hE : ((s[0].toNat : Int) - 128) = (n : Int) := by have := hn.out; omega
  have c1 : (n : Int) ≤ 55 := by omega
  have c3 : (n : Int) ≤ ((s.size - 1 : Nat) : Int) := by omega
  have hst' : ((n : Int) == 1) = false := by simpa using hst
  go_enter Try.func69, Try.ntmps69
  go_wp2_with fail
  exact bodyPost_ret (v := .tuple #[.agg #[.bool false, .string ((s.extract 1 s.size).extract 0 n), .slice none 0 0], .string ((s.extract 1 s.size).extract n (s.size - 1)), .bool true]) (by simp [results, Try.results69, go_sem]) rfl
    (partPost_yes hp.out (by rw [Lib.extract_data, Lib.extract_to_end, List.take_of_length_le]; simp; omega) (ow_bytes _ _ _ _ _ _ (by rw [Lib.extract_data, Lib.extract_to_end]; simp)) ((Below.refl _ _).alloc (Nat.le_refl _) _))

set_option maxHeartbeats 1600000 in
theorem part_short128One (n : Nat) (h2 : s.size ≤ 1000) (hb : s.toList.isEmpty = false) (h1 : 0 < s.size) (hge : 128 ≤ s[0].toNat) (hlt : s[0].toNat < 192) (hn : Hid (s[0].toNat - 128 = n)) (h55 : n ≤ 55) (hle : n ≤ s.size - 1) (hst : ((n : Int) == 1) = true) (hn1 : 0 < n) (hi : 0 < ((s.extract 1 s.size).extract 0 n).size) (hif : ¬ ((((s.extract 1 s.size).extract 0 n)[0]'hi).toNat : Int) < 128) (hp : Hid (p = some (⟨false, (s.data.toList.drop 1).take n, []⟩, (s.data.toList.drop 1).drop n))) :
    Calls Try.prog 69 #[.string s] w (PartPost p (f + 1) w) := by
  have h8 := s[0].toNat_lt
  have hge1 : ¬ (s[0].toNat : Int) < 128 := by omega
  have hge2 : ¬ (192 : Int) ≤ (s[0].toNat : Int) := by omega
  have hE : ((s[0].toNat : Int) - 128) = (n : Int) := by have := hn.out; omega
  have c1 : (n : Int) ≤ 55 := by omega
  have c3 : (n : Int) ≤ ((s.size - 1 : Nat) : Int) := by omega
  go_enter Try.func69, Try.ntmps69
  go_wp2_with fail
  exact bodyPost_ret (v := .tuple #[.agg #[.bool false, .string ((s.extract 1 s.size).extract 0 n), .slice none 0 0], .string ((s.extract 1 s.size).extract n (s.size - 1)), .bool true]) (by simp [results, Try.results69, go_sem]) rfl
    (partPost_yes hp.out (by rw [Lib.extract_data, Lib.extract_to_end, List.take_of_length_le]; simp; omega) (ow_bytes _ _ _ _ _ _ (by rw [Lib.extract_data, Lib.extract_to_end]; simp)) ((Below.refl _ _).alloc (Nat.le_refl _) _))

set_option maxHeartbeats 1600000 in
theorem part_short128OneNo (n : Nat) (h2 : s.size ≤ 1000) (hb : s.toList.isEmpty = false) (h1 : 0 < s.size) (hge : 128 ≤ s[0].toNat) (hlt : s[0].toNat < 192) (hn : Hid (s[0].toNat - 128 = n)) (h55 : n ≤ 55) (hle : n ≤ s.size - 1) (hst : ((n : Int) == 1) = true) (hn1 : 0 < n) (hi : 0 < ((s.extract 1 s.size).extract 0 n).size) (hif : ((((s.extract 1 s.size).extract 0 n)[0]'hi).toNat : Int) < 128) (hp : Hid (p = none)) :
    Calls Try.prog 69 #[.string s] w (PartPost p f w) := by
  have h8 := s[0].toNat_lt
  have hge1 : ¬ (s[0].toNat : Int) < 128 := by omega
  have hge2 : ¬ (192 : Int) ≤ (s[0].toNat : Int) := by omega
  have hE : ((s[0].toNat : Int) - 128) = (n : Int) := by have := hn.out; omega
  have c1 : (n : Int) ≤ 55 := by omega
  have c3 : (n : Int) ≤ ((s.size - 1 : Nat) : Int) := by omega
  go_enter Try.func69, Try.ntmps69
  go_wp2_with fail
  exact bodyPost_ret (v := .tuple #[.agg #[.bool false, .string ⟨#[]⟩, .slice none 0 0], .string ⟨#[]⟩, .bool false]) (by simp [results, Try.results69, go_sem]) rfl (partPost_no hp.out ((Below.refl _ _).alloc (Nat.le_refl _) _))

set_option maxHeartbeats 1600000 in
theorem part_short192 (n : Nat) (h2 : s.size ≤ 1000) (hb : s.toList.isEmpty = false) (h1 : 0 < s.size) (hge : 192 ≤ s[0].toNat) (hn : Hid (s[0].toNat - 192 = n)) (h55 : n ≤ 55) (hle : n ≤ s.size - 1) (hf : s.size ≤ f + 1) (IH : Hid (∀ r : ByteArray, r.size ≤ f → r.size ≤ 1000 → ∀ w, Calls Try.prog 69 #[.string r] w (PartPost (Itm.parse f r.data.toList) f w))) (o : Option (List Itm))
    (ho : Hid (o = Itm.loopP (Itm.parse f) ((s.data.toList.drop 1).take n).length ((s.data.toList.drop 1).take n))) (hp : Hid (∀ l, o = some l → p = some (⟨true, [], l⟩, (s.data.toList.drop 1).drop n))) (hpn : Hid (o = none → p = none)) :
    Calls Try.prog 69 #[.string s] w (PartPost p (f + 1) w) := by
  have h8 := s[0].toNat_lt
  have hge1 : ¬ (s[0].toNat : Int) < 128 := by omega
  have hge2 : (192 : Int) ≤ (s[0].toNat : Int) := by omega
  have hE : ((s[0].toNat : Int) - 192) = (n : Int) := by have := hn.out; omega
  have c1 : (n : Int) ≤ 55 := by omega
  have c3 : (n : Int) ≤ ((s.size - 1 : Nat) : Int) := by omega
  have HI : Hid (((s.extract 1 s.size).extract 0 n).data.toList = (s.data.toList.drop 1).take n) := by rw [Hid, Lib.extract_data, Lib.extract_to_end]; simp
  have HR : Hid (((s.extract 1 s.size).extract n (s.size - 1)).data.toList = (s.data.toList.drop 1).drop n) := by rw [Hid, Lib.extract_data, Lib.extract_to_end, List.take_of_length_le]; simp; omega
  have HN : Hid (((s.extract 1 s.size).extract 0 n).size ≤ 1000) := by simp [Hid]; omega
  have HNf : Hid (((s.extract 1 s.size).extract 0 n).size ≤ f) := by simp [Hid]; omega
  have HO : Hid (o = Itm.loopP (Itm.parse f) ((s.extract 1 s.size).extract 0 n).size ((s.extract 1 s.size).extract 0 n).data.toList) := by rw [Hid, ← ba_len, HI.out]; exact ho.out
  go_enter Try.func69, Try.ntmps69
  go_wp2_with fail
  go_loopw [10] (fun b wr => ∃ (r : ByteArray) (m : Nat) (a : Option Addr) (cap : Nat) (done : List Itm), b = .string r ∧ r.size ≤ 1000 ∧ Hid (PartRel f ((s.extract 1 s.size).extract 0 n).size o w wr r m a cap done)) (fun b _ => strLen b)
  case atStart => exact ⟨_, _, none, 0, [], rfl, HN.out, part_start f o w _ HO.out⟩
  case round =>
    obtain ⟨r, m, a, cap, done, rfl, hr, HH⟩ := hrel
    have HQ : Hid (Below (w.alloc (.cells #[.bool false, .string ⟨#[]⟩, .slice none 0 0] 24)).heap.size (w.alloc (.cells #[.bool false, .string ⟨#[]⟩, .slice none 0 0] 24)) wr) := HH.out.2.2.1
    obtain ⟨hcc, hff⟩ := bcell HQ.out
    by_cases hne : r.data.toList = []
    · have hb : r.toList.isEmpty = true := by rw [toList_isEmpty, hne]; rfl
      have HE := hid hne
      have hx0 := cell_of_row _ _ 0 _ _ _ HH.out.1
      have hx1 := cell_of_row _ _ 1 _ _ _ HH.out.1
      have hx2 := cell_of_row _ _ 2 _ _ _ HH.out.1
      clear hne
      go_wp2_with fail
      obtain ⟨c0, c1, c2⟩ := set3 (old_block HQ.out) (.bool true) (.string ⟨#[]⟩) (.slice a done.length cap)
      refine bodyPost_ret (v := .tuple #[.agg #[.bool true, .string ⟨#[]⟩, .slice a done.length cap], .string _, .bool true]) (by simp [results, Try.results69, go_sem, c0, c1, c2]) rfl (partPost_yes (hp.out done (part_end HH.out HE.out)) HR.out ?_ (box_below HQ.out _ _ _))
      rw [box_size]
      exact own_widen (lo := w.heap.size + 1) (ow_box _ _ _ (own_widen (ow_list HH.out.2.1) (Nat.le_succ _) (Nat.le_refl _))) (Nat.le_succ _) (Nat.le_refl _)
    · have hb : r.toList.isEmpty = false := by rw [toList_isEmpty]; simpa using hne
      have HE := hid hne
      have hcall := hid (IH.out r (by have := HH.out.2.2.2.2.2.2; have := HNf.out; omega) hr)
      clear hne
      cases hpr : Itm.parse f r.data.toList with
      | none =>
        have HS := hid (part_stop HH.out HE.out hpr)
        have HPR := hid hpr
        clear hpr
        go_wp2_with fail
        refine (hcall.out _).mono ?_
        rintro e w1 ⟨hno, _, hbel⟩
        obtain rfl := hno HPR.out
        have HB := hid (HQ.out.trans (hbel.mono HQ.out.size))
        obtain ⟨hcc1, hff1⟩ := bcell HB.out
        clear hno
        have hsz : w.heap.size < w1.heap.size := by have := HB.out.size; simp at this; omega
        go_wp2_with fail
        obtain ⟨c0, c1, c2⟩ := set3 (old_block HB.out) (.bool false) (.string ⟨#[]⟩) (.slice none 0 0)
        exact bodyPost_ret (v := .tuple #[.agg #[.bool false, .string ⟨#[]⟩, .slice none 0 0], .string ⟨#[]⟩, .bool false]) (by simp [results, Try.results69, go_sem, c0, c1, c2, hsz]) rfl (partPost_no (hpn.out HS.out) ((box_below HB.out _ _ _).alloc (by rw [box_size]; omega) _))
      | some xr =>
        obtain ⟨t, rest2⟩ := xr
        have HPR := hid hpr
        clear hpr
        cases m with
        | zero => exact absurd (List.eq_nil_of_length_eq_zero (by rw [ba_len]; have := HH.out.2.2.2.2.2.1; omega)) HE.out
        | succ m =>
        go_wp2_with fail
        refine (hcall.out _).mono ?_
        rintro e w1 ⟨_, hyes, hbel⟩
        obtain ⟨v, rfl, p5⟩ := hyes t rest2 HPR.out
        obtain ⟨a2, cap2, rfl⟩ := ow_shape p5
        have HY := hid p5
        have HB := hid hbel
        clear hyes p5 hbel
        have hwr : w.heap.size + 2 ≤ wr.heap.size := HH.out.2.2.2.1
        have hsz : wr.heap.size ≤ w1.heap.size := HB.out.size
        have hx2 : w1.cell? ⟨w.heap.size + 1, 2, none⟩ = some (.slice a done.length cap) := by
          rw [HB.out.cell (p := ⟨w.heap.size + 1, 2, none⟩) (by show w.heap.size + 1 < wr.heap.size; omega), cell_of_row _ _ 2 _ _ _ HH.out.1]; rfl
        have hlt1 : w.heap.size + 1 < w1.heap.size := by omega
        have hlt2 : w.heap.size + 1 < w1.heap.size + 1 := by omega
        have hne1 : ¬ (w.heap.size + 1 = w1.heap.size) := by omega
        have hne2 : ¬ (w1.heap.size = w.heap.size + 1) := by omega
        have HB3 : Hid (Below wr.heap.size wr (w1.alloc (.cells #[.bool t.list, .string ⟨t.bytes.toArray⟩, .slice a2 t.items.length cap2] 24))) := HB.out.alloc HB.out.size _
        have HY3 : Hid (Ow (w1.alloc (.cells #[.bool t.list, .string ⟨t.bytes.toArray⟩, .slice a2 t.items.length cap2] 24)) f wr.heap.size w1.heap.size (.agg #[.bool t.list, .string ⟨t.bytes.toArray⟩, .slice a2 t.items.length cap2]) t) := own_frame _ _ _ _ _ (fun k _ hk => Below.heap_alloc _ _ _ hk) HY.out
        have HW : Hid (w1.heap.size + 1 = (w1.alloc (.cells #[.bool t.list, .string ⟨t.bytes.toArray⟩, .slice a2 t.items.length cap2] 24)).heap.size) := by simp [Hid]
        have HO1 : Hid (OwL wr f (w.heap.size + 2) wr.heap.size (.slice a done.length cap) done) := HH.out.2.1
        have hdl : done.length ≤ 1000000 := by have := HH.out.2.2.2.2.2.2; have := HN.out; omega
        have H3 : Hid (w1.heap.size ≤ (w1.alloc (.cells #[.bool t.list, .string ⟨t.bytes.toArray⟩, .slice a2 t.items.length cap2] 24)).heap.size) := by simp [Hid]
        have H4 : Hid (wr.heap.size ≤ (w1.alloc (.cells #[.bool t.list, .string ⟨t.bytes.toArray⟩, .slice a2 t.items.length cap2] 24)).heap.size) := by rw [Hid, ← HW.out]; omega
        have H5 : Hid (w.heap.size + 2 ≤ (w1.alloc (.cells #[.bool t.list, .string ⟨t.bytes.toArray⟩, .slice a2 t.items.length cap2] 24)).heap.size) := by rw [Hid, ← HW.out]; omega
        have HX9 : Hid (∀ w', Below (w.heap.size + 2) (w1.alloc (.cells #[.bool t.list, .string ⟨t.bytes.toArray⟩, .slice a2 t.items.length cap2] 24)) w' → w'.heap[w.heap.size + 1]? = some (.cells #[.bool true, .string ⟨#[]⟩, .slice a done.length cap] 24 (0, 0))) := by
          intro w' hb'
          rw [hb'.block _ (by omega), HB3.out.block _ (by omega)]
          exact HH.out.1
        go_wp2_with (at_builtin; refine wpList_append_one rfl (.tmp 109) (.tmp 111) rfl rfl rfl HW.out HO1.out HB3.out HY3.out (Nat.le_refl _) hwr H3.out H4.out H5.out ⟨rfl, rfl, rfl⟩ hdl ?_; intro v' w' hown2 hbel2; obtain ⟨a9, c9, rfl⟩ := ownL_len hown2; have hx9 := cell_of_row _ _ 2 _ _ _ (HX9.out w' hbel2); have hf9 := frozen_of_row _ _ 2 _ _ (HX9.out w' hbel2))
        have hlen : rest2.length < r.size := by
          have h1 := (Itm.parse_sound f _ _ _ HPR.out).1
          have h2 : r.size = (Itm.enc t).length + rest2.length := by rw [← ba_len, h1, List.length_append]
          have h3 : 0 < (Itm.enc t).length := List.length_pos_iff.2 (Itm.enc_ne t)
          omega
        refine ⟨⟨⟨rest2.toArray⟩, m, a9, c9, done ++ [t], rfl, ?_, part_step HH.out HE.out HPR.out hown2 HB3.out hbel2 (HX9.out _ hbel2)⟩, ?_⟩
        · show rest2.toArray.size ≤ 1000
          simp; omega
        · show rest2.toArray.size < r.size
          simp; omega

end
end Go.Proofs.Ytbmohenjphmlgaa
