/- The walk of 'first': the item that bytes begin with, as 'parse' says, in lists of its own. -/
import Derived.Test.YtbmohenjphmlgaaAll
import Derived.Deep.RegionWith
namespace Go.Proofs.Ytbmohenjphmlgaa
open Go.RowKit
set_option maxRecDepth 100000

theorem bcell {W w1 : World} (hb : Below W.heap.size W w1) : (∀ b o, b < W.heap.size → w1.cell? ⟨b, o, none⟩ = W.cell? ⟨b, o, none⟩) ∧ (∀ b o, b < W.heap.size → w1.frozen? ⟨b, o, none⟩ = W.frozen? ⟨b, o, none⟩) :=
  ⟨fun b o h => hb.cell (p := ⟨b, o, none⟩) h, fun b o h => hb.frozen (p := ⟨b, o, none⟩) h⟩

theorem below_undrew {B : Nat} {w w1 : World} (h : Below B w.drew w1) : Below B w w1 := ⟨h.os, h.tape, h.output, h.size, h.block⟩

theorem below_undrewN {B : Nat} (n : Nat) {w w1 : World} (h : Below B (w.drewN n) w1) : Below B w w1 := ⟨h.os, h.tape, h.output, h.size, h.block⟩

theorem drewN_below (w : World) (n : Nat) : Below w.heap.size w (w.drewN n) := ⟨rfl, rfl, rfl, Nat.le_refl _, fun _ _ => rfl⟩

theorem set3 {w1 : World} {g : Nat} {x0 x1 x2 : Value} {e : TypeId} {fz : Nat × Nat} (h : w1.heap[g]? = some (.cells #[x0, x1, x2] e fz)) (a b c : Value) :
    (((w1.setCell ⟨g, 0, none⟩ a).setCell ⟨g, 1, none⟩ b).setCell ⟨g, 2, none⟩ c).cell? ⟨g, 0, none⟩ = some a ∧
    (((w1.setCell ⟨g, 0, none⟩ a).setCell ⟨g, 1, none⟩ b).setCell ⟨g, 2, none⟩ c).cell? ⟨g, 1, none⟩ = some b ∧
    (((w1.setCell ⟨g, 0, none⟩ a).setCell ⟨g, 1, none⟩ b).setCell ⟨g, 2, none⟩ c).cell? ⟨g, 2, none⟩ = some c := by
  simp [World.setCell, World.cell?, Array.getElem?_modify, h]

theorem old_block {w w1 : World} {O : Obj} (hb : Below (w.alloc O).heap.size (w.alloc O) w1) : w1.heap[w.heap.size]? = some O := by
  rw [hb.block _ (by simp)]; exact heap_alloc_new w O

theorem box_below {w w1 : World} {O : Obj} (hb : Below (w.alloc O).heap.size (w.alloc O) w1) (a b c : Value) :
    Below w.heap.size w (((w1.setCell ⟨w.heap.size, 0, none⟩ a).setCell ⟨w.heap.size, 1, none⟩ b).setCell ⟨w.heap.size, 2, none⟩ c) := by
  have h1 : Below w.heap.size w w1 := ((Below.refl w.heap.size w).alloc (Nat.le_refl _) O).trans (hb.mono (by simp))
  exact ((h1.setCell (p := ⟨w.heap.size, 0, none⟩) (Nat.le_refl _) a).setCell (p := ⟨w.heap.size, 1, none⟩) (Nat.le_refl _) b).setCell (p := ⟨w.heap.size, 2, none⟩) (Nat.le_refl _) c

theorem setCell_block (w : World) (a : Addr) (u : Value) (k : Nat) (h : k ≠ a.block) : (w.setCell a u).heap[k]? = w.heap[k]? := Below.heap_setCell w a u k h

theorem box_other {w1 : World} {g k : Nat} (h : k ≠ g) (a b c : Value) :
    (((w1.setCell ⟨g, 0, none⟩ a).setCell ⟨g, 1, none⟩ b).setCell ⟨g, 2, none⟩ c).heap[k]? = w1.heap[k]? := by
  rw [setCell_block _ _ _ _ h, setCell_block _ _ _ _ h, setCell_block _ _ _ _ h]

theorem box_size (w1 : World) (g : Nat) (a b c : Value) :
    (((w1.setCell ⟨g, 0, none⟩ a).setCell ⟨g, 1, none⟩ b).setCell ⟨g, 2, none⟩ c).heap.size = w1.heap.size := by simp [World.setCell]

/-- An item of bytes alone, wherever. -/
theorem ow_bytes (w : World) (n lo hi : Nat) (b : ByteArray) (l : List UInt8) (h : b.data.toList = l) : Ow w (n + 1) lo hi (.agg #[.bool false, .string b, .slice none 0 0]) ⟨false, l, []⟩ :=
  ⟨.slice none 0 0, by rw [str_eq h], ownL_nil _ _ _ _ _⟩

/-- A list, once its items are owned. -/
theorem ow_list {w1 : World} {n lo hi : Nat} {sl : Value} {l : List Itm} (h : OwL w1 n lo hi sl l) : Ow w1 (n + 1) lo hi (.agg #[.bool true, .string ⟨#[]⟩, sl]) ⟨true, [], l⟩ := ⟨sl, rfl, h⟩

theorem ow_box {w1 : World} {g n hi : Nat} {v : Value} {t : Itm} (a b c : Value) (h : Ow w1 n (g + 1) hi v t) :
    Ow (((w1.setCell ⟨g, 0, none⟩ a).setCell ⟨g, 1, none⟩ b).setCell ⟨g, 2, none⟩ c) n (g + 1) hi v t :=
  own_frame n _ _ _ _ (fun k h1 _ => box_other (by omega) a b c) h

section
variable (f : Nat) (s : ByteArray) (w : World)

set_option maxHeartbeats 400000 in
theorem first_empty (hb : s.toList.isEmpty = true) :
    Calls Try.prog 67 #[.string s] w fun e w' => (∃ b r, e = .returned (.tuple #[.agg #[.bool b, .string ⟨#[]⟩, .slice none 0 0], .string r, .bool false])) ∧ Below w.heap.size w w' := by
  go_enter Try.func67, Try.ntmps67
  go_wp2_with fail
  exact bodyPost_ret (v := .tuple #[.agg #[.bool false, .string ⟨#[]⟩, .slice none 0 0], .string ⟨#[]⟩, .bool false]) (by simp [results, Try.results67, go_sem]) rfl ⟨⟨_, _, rfl⟩, (Below.refl _ _).alloc (Nat.le_refl _) _⟩

set_option maxHeartbeats 400000 in
theorem first_byte (h2 : s.size ≤ 1000000) (hb : s.toList.isEmpty = false) (h1 : 0 < s.size) (hlt : s[0].toNat < 128) :
    Calls Try.prog 67 #[.string s] w fun e w' => ∃ v, e = .returned (.tuple #[v, .string ⟨(s.data.toList.drop 1).toArray⟩, .bool true]) ∧ Ow w' (f + 1) w.heap.size w'.heap.size v ⟨false, s.data.toList.take 1, []⟩ ∧ Below w.heap.size w w' := by
  have hlt' : (s[0].toNat : Int) < 128 := by omega
  go_enter Try.func67, Try.ntmps67
  go_wp2_with fail
  go_region_with (go_at_call 90; refine (clone_any _ _ (by simp; omega)).mono ?_; rintro e w1 ⟨rfl, hbel⟩; obtain ⟨hc, hf⟩ := bcell hbel)
  all_goals go_wp2_with fail
  all_goals
    have hbel' := below_undrew hbel
    obtain ⟨c0, c1, c2⟩ := set3 (old_block hbel') (.bool false) (.string (s.extract 0 1)) (.slice none 0 0)
    exact bodyPost_ret (v := .tuple #[.agg #[.bool false, .string (s.extract 0 1), .slice none 0 0], .string (s.extract 1 s.size), .bool true]) (by simp [results, Try.results67, go_sem, Act.put, c0, c1, c2]) rfl ⟨_, ret3 rfl (str_eq (Lib.extract_to_end _ _)) rfl, ow_bytes _ _ _ _ _ _ (by rw [Lib.extract_data]; simp), box_below hbel' _ _ _⟩

set_option maxHeartbeats 400000 in
theorem first_bytes_no (h2 : s.size ≤ 1000000) (hb : s.toList.isEmpty = false) (h1 : 0 < s.size) (hge : 128 ≤ s[0].toNat) (hlt : s[0].toNat < 192) (hcut : Itm.cutP 128 s.data.toList = none) :
    Calls Try.prog 67 #[.string s] w fun e w' => (∃ b r, e = .returned (.tuple #[.agg #[.bool b, .string ⟨#[]⟩, .slice none 0 0], .string r, .bool false])) ∧ Below w.heap.size w w' := by
  have hc : ∀ w, Calls Try.prog 91 #[.string s, .int .u8 128] w fun e w' => e = .returned (.tuple #[.string ⟨#[]⟩, .string ⟨#[]⟩, .bool false]) ∧ ∃ nq, w' = w.drewN nq := fun w => cut_no s 128 w (by unfold maxLen; omega) h1 hge (by omega) hcut
  have HC := hid hc
  clear hc hcut
  have hge' : (128 : Int) ≤ (s[0].toNat : Int) := by omega
  have hlt' : (s[0].toNat : Int) < 192 := by omega
  go_enter Try.func67, Try.ntmps67
  go_wp2_with fail
  refine (HC.out _).mono ?_
  rintro e w1 ⟨rfl, nq, rfl⟩
  go_wp2_with fail
  exact bodyPost_ret (v := .tuple #[.agg #[.bool false, .string ⟨#[]⟩, .slice none 0 0], .string ⟨#[]⟩, .bool false]) (by simp [results, Try.results67, go_sem]) rfl ⟨⟨_, _, rfl⟩, box_below (drewN_below _ _) _ _ _⟩

set_option maxHeartbeats 400000 in
theorem first_bytes_stands (h2 : s.size ≤ 1000000) (hb : s.toList.isEmpty = false) (h1 : 0 < s.size) (hge : 128 ≤ s[0].toNat) (hlt : s[0].toNat < 192) (body rest : List UInt8) (hcut : Itm.cutP 128 s.data.toList = some (body, rest)) (hst : Itm.stands body = true) :
    Calls Try.prog 67 #[.string s] w fun e w' => (∃ b r, e = .returned (.tuple #[.agg #[.bool b, .string ⟨#[]⟩, .slice none 0 0], .string r, .bool false])) ∧ Below w.heap.size w w' := by
  have hc : ∀ w, Calls Try.prog 91 #[.string s, .int .u8 128] w fun e w' => e = .returned (.tuple #[.string ⟨body.toArray⟩, .string ⟨rest.toArray⟩, .bool true]) ∧ ∃ nq, w' = w.drewN nq := fun w => cut_yes s 128 w (by unfold maxLen; omega) h1 hge (by omega) body rest hcut
  have hs2 : ∀ w, Calls Try.prog 92 #[.string ⟨body.toArray⟩] w fun e w' => e = .returned (.bool true) ∧ w' = w := fun w => by
    have := stands_any ⟨body.toArray⟩ w
    rw [show Itm.stands ((⟨body.toArray⟩ : ByteArray).data.toList) = true from hst] at this
    exact this
  have HC := hid hc
  have HS := hid hs2
  clear hc hcut hs2 hst
  have hge' : (128 : Int) ≤ (s[0].toNat : Int) := by omega
  have hlt' : (s[0].toNat : Int) < 192 := by omega
  go_enter Try.func67, Try.ntmps67
  go_wp2_with fail
  refine (HC.out _).mono ?_
  rintro e w1 ⟨rfl, nq, rfl⟩
  go_wp2_with fail
  refine (HS.out _).mono ?_
  rintro e w1 ⟨rfl, rfl⟩
  go_wp2_with fail
  exact bodyPost_ret (v := .tuple #[.agg #[.bool false, .string ⟨#[]⟩, .slice none 0 0], .string ⟨#[]⟩, .bool false]) (by simp [results, Try.results67, go_sem]) rfl ⟨⟨_, _, rfl⟩, box_below (drewN_below _ _) _ _ _⟩

set_option maxHeartbeats 400000 in
theorem first_bytes_yes (h2 : s.size ≤ 1000000) (hb : s.toList.isEmpty = false) (h1 : 0 < s.size) (hge : 128 ≤ s[0].toNat) (hlt : s[0].toNat < 192) (body rest : List UInt8) (hcut : Itm.cutP 128 s.data.toList = some (body, rest)) (hst : Itm.stands body = false) :
    Calls Try.prog 67 #[.string s] w fun e w' => ∃ v, e = .returned (.tuple #[v, .string ⟨rest.toArray⟩, .bool true]) ∧ Ow w' (f + 1) w.heap.size w'.heap.size v ⟨false, body, []⟩ ∧ Below w.heap.size w w' := by
  have hlen : body.length ≤ 1000000 := by
    have := (Itm.cutP_sound (by intro h; rw [h] at hcut; simp [← ba_len, h] at h1) (by rw [ba_getD s h1]; exact hge) hcut).2.1
    rw [ba_len] at this
    omega
  have hc : ∀ w, Calls Try.prog 91 #[.string s, .int .u8 128] w fun e w' => e = .returned (.tuple #[.string ⟨body.toArray⟩, .string ⟨rest.toArray⟩, .bool true]) ∧ ∃ nq, w' = w.drewN nq := fun w => cut_yes s 128 w (by unfold maxLen; omega) h1 hge (by omega) body rest hcut
  have hs2 : ∀ w, Calls Try.prog 92 #[.string ⟨body.toArray⟩] w fun e w' => e = .returned (.bool false) ∧ w' = w := fun w => by
    have := stands_any ⟨body.toArray⟩ w
    rw [show Itm.stands ((⟨body.toArray⟩ : ByteArray).data.toList) = false from hst] at this
    exact this
  have hcl : ∀ w, Calls Try.prog 90 #[.string ⟨body.toArray⟩] w fun e w' => e = .returned (.string ⟨body.toArray⟩) ∧ Below w.heap.size w w' := fun w => clone_any ⟨body.toArray⟩ w (by show body.toArray.size ≤ _; simp; omega)
  have HC := hid hc
  have HS := hid hs2
  have HD := hid hcl
  clear hc hcut hs2 hst hcl
  have hge' : (128 : Int) ≤ (s[0].toNat : Int) := by omega
  have hlt' : (s[0].toNat : Int) < 192 := by omega
  go_enter Try.func67, Try.ntmps67
  go_wp2_with fail
  refine (HC.out _).mono ?_
  rintro e w1 ⟨rfl, nq, rfl⟩
  go_wp2_with fail
  refine (HS.out _).mono ?_
  rintro e w1 ⟨rfl, rfl⟩
  go_wp2_with fail
  refine (HD.out _).mono ?_
  rintro e w1 ⟨rfl, hbel⟩
  obtain ⟨hcc, hff⟩ := bcell hbel
  go_wp2_with fail
  have hbel' := below_undrewN _ hbel
  obtain ⟨c0, c1, c2⟩ := set3 (old_block hbel') (.bool false) (.string ⟨body.toArray⟩) (.slice none 0 0)
  exact bodyPost_ret (v := .tuple #[.agg #[.bool false, .string ⟨body.toArray⟩, .slice none 0 0], .string ⟨rest.toArray⟩, .bool true]) (by simp [results, Try.results67, go_sem, c0, c1, c2]) rfl ⟨_, rfl, ow_bytes _ _ _ _ _ _ (by simp), box_below hbel' _ _ _⟩

set_option maxHeartbeats 400000 in
theorem first_list_cut (h2 : s.size ≤ 1000000) (hb : s.toList.isEmpty = false) (h1 : 0 < s.size) (hge : 192 ≤ s[0].toNat) (hcut : Itm.cutP 192 s.data.toList = none) :
    Calls Try.prog 67 #[.string s] w fun e w' => (∃ b r, e = .returned (.tuple #[.agg #[.bool b, .string ⟨#[]⟩, .slice none 0 0], .string r, .bool false])) ∧ Below w.heap.size w w' := by
  have h8 := s[0].toNat_lt
  have hc : ∀ w, Calls Try.prog 91 #[.string s, .int .u8 192] w fun e w' => e = .returned (.tuple #[.string ⟨#[]⟩, .string ⟨#[]⟩, .bool false]) ∧ ∃ nq, w' = w.drewN nq := fun w => cut_no s 192 w (by unfold maxLen; omega) h1 hge (by omega) hcut
  have HC := hid hc
  clear hc hcut
  have hge' : (192 : Int) ≤ (s[0].toNat : Int) := by omega
  go_enter Try.func67, Try.ntmps67
  go_wp2_with fail
  refine (HC.out _).mono ?_
  rintro e w1 ⟨rfl, nq, rfl⟩
  go_wp2_with fail
  exact bodyPost_ret (v := .tuple #[.agg #[.bool false, .string ⟨#[]⟩, .slice none 0 0], .string ⟨#[]⟩, .bool false]) (by simp [results, Try.results67, go_sem]) rfl ⟨⟨_, _, rfl⟩, box_below (drewN_below _ _) _ _ _⟩

set_option maxHeartbeats 400000 in
theorem first_list (hF : FirstOk f) (hf : s.size ≤ f + 1) (h2 : s.size ≤ 1000000) (hb : s.toList.isEmpty = false) (h1 : 0 < s.size) (hge : 192 ≤ s[0].toNat) (body rest : List UInt8) (hcut : Itm.cutP 192 s.data.toList = some (body, rest)) :
    (∀ l, Itm.loopP (Itm.parse f) body.length body = some l → Calls Try.prog 67 #[.string s] w fun e w' => ∃ v, e = .returned (.tuple #[v, .string ⟨rest.toArray⟩, .bool true]) ∧ Ow w' (f + 1) w.heap.size w'.heap.size v ⟨true, [], l⟩ ∧ Below w.heap.size w w') ∧
    (Itm.loopP (Itm.parse f) body.length body = none → Calls Try.prog 67 #[.string s] w fun e w' => (∃ b r, e = .returned (.tuple #[.agg #[.bool b, .string ⟨#[]⟩, .slice none 0 0], .string r, .bool false])) ∧ Below w.heap.size w w') := by
  have h8 := s[0].toNat_lt
  have hlen : body.length < s.size := by
    have := (Itm.cutP_sound (by intro h; rw [h] at hcut; simp [← ba_len, h] at h1) (by rw [ba_getD s h1]; exact hge) hcut).2.1
    rw [ba_len] at this
    omega
  have hc : ∀ w, Calls Try.prog 91 #[.string s, .int .u8 192] w fun e w' => e = .returned (.tuple #[.string ⟨body.toArray⟩, .string ⟨rest.toArray⟩, .bool true]) ∧ ∃ nq, w' = w.drewN nq := fun w => cut_yes s 192 w (by unfold maxLen; omega) h1 hge (by omega) body rest hcut
  have ha := fun w o => all_any f hF ⟨body.toArray⟩ w o (by show body.toArray.size ≤ _; simp; omega) (by show body.toArray.size ≤ _; simp; omega)
  have hbs : (⟨body.toArray⟩ : ByteArray).size = body.length := by show body.toArray.size = _; simp
  rw [hbs] at ha
  have HC := hid hc
  have HA := hid ha
  have hge' : (192 : Int) ≤ (s[0].toNat : Int) := by omega
  clear hc hcut ha hbs
  constructor
  · intro l hl
    have HL := hid hl
    clear hl
    go_enter Try.func67, Try.ntmps67
    go_wp2_with fail
    refine (HC.out _).mono ?_
    rintro e w1 ⟨rfl, nq, rfl⟩
    go_wp2_with fail
    refine (HA.out _ (some l) HL.out.symm).mono ?_
    rintro e w1 ⟨hyes, _, hbel⟩
    obtain ⟨sl, rfl, hown⟩ := hyes l rfl
    obtain ⟨a2, cap2, rfl⟩ := ownL_len hown
    have HO := hid hown
    clear hyes hown
    obtain ⟨hcc, hff⟩ := bcell hbel
    go_wp2_with fail
    have hbel' := below_undrewN _ hbel
    obtain ⟨c0, c1, c2⟩ := set3 (old_block hbel') (.bool true) (.string ⟨#[]⟩) (.slice a2 l.length cap2)
    refine bodyPost_ret (v := .tuple #[.agg #[.bool true, .string ⟨#[]⟩, .slice a2 l.length cap2], .string ⟨rest.toArray⟩, .bool true]) (by simp [results, Try.results67, go_sem, c0, c1, c2]) rfl ⟨_, rfl, ?_, box_below hbel' _ _ _⟩
    rw [box_size]
    refine own_widen (ow_box _ _ _ (ow_list (lo := w.heap.size + 1) ?_)) (Nat.le_succ _) (Nat.le_refl _)
    have := HO.out
    simpa using this
  · intro hn
    have HL := hid hn
    clear hn
    go_enter Try.func67, Try.ntmps67
    go_wp2_with fail
    refine (HC.out _).mono ?_
    rintro e w1 ⟨rfl, nq, rfl⟩
    go_wp2_with fail
    refine (HA.out _ none HL.out.symm).mono ?_
    rintro e w1 ⟨_, hno, hbel⟩
    obtain rfl := hno rfl
    obtain ⟨hcc, hff⟩ := bcell hbel
    go_wp2_with fail
    have hbel' := below_undrewN _ hbel
    obtain ⟨c0, c1, c2⟩ := set3 (old_block hbel') (.bool true) (.string ⟨#[]⟩) (.slice none 0 0)
    exact bodyPost_ret (v := .tuple #[.agg #[.bool true, .string ⟨#[]⟩, .slice none 0 0], .string ⟨rest.toArray⟩, .bool false]) (by simp [results, Try.results67, go_sem, c0, c1, c2]) rfl ⟨⟨_, _, rfl⟩, box_below hbel' _ _ _⟩
end

theorem ba_empty (s : ByteArray) (h : s.size = 0) : s.data.toList = [] := List.eq_nil_of_length_eq_zero (by rw [ba_len]; exact h)

/-- 'first' does what 'parse' says, of however many bytes. -/
theorem first_ok : ∀ f, FirstOk f := by
  intro f
  induction f with
  | zero =>
    refine ⟨?_, ?_⟩
    · intro s w h0 _ _
      exact first_empty s w (by rw [toList_isEmpty, ba_empty s (by omega)]; rfl)
    · intro s w t rest _ _ hp
      rw [Itm.parse_zero] at hp; cases hp
  | succ f ih =>
    have key : ∀ (s : ByteArray) (w : World), s.size ≤ f + 1 → s.size ≤ 1000000 →
        (Itm.parse (f + 1) s.data.toList = none → Calls Try.prog 67 #[.string s] w fun e w' => (∃ b r, e = .returned (.tuple #[.agg #[.bool b, .string ⟨#[]⟩, .slice none 0 0], .string r, .bool false])) ∧ Below w.heap.size w w') ∧
        (∀ t rest, Itm.parse (f + 1) s.data.toList = some (t, rest) → Calls Try.prog 67 #[.string s] w fun e w' => ∃ v, e = .returned (.tuple #[v, .string ⟨rest.toArray⟩, .bool true]) ∧ Ow w' (f + 1) w.heap.size w'.heap.size v t ∧ Below w.heap.size w w') := by
      intro s w hf h2
      rw [Itm.parse_succ]
      unfold Itm.stepP
      by_cases h0 : s.data.toList.isEmpty
      · rw [if_pos h0]
        refine ⟨fun _ => first_empty s w (by rw [toList_isEmpty]; exact h0), ?_⟩
        intro t rest hp; cases hp
      · rw [if_neg h0]
        have hb : s.toList.isEmpty = false := by rw [toList_isEmpty]; simpa using h0
        have h1 : 0 < s.size := by
          rcases Nat.eq_zero_or_pos s.size with hz | hz
          · rw [ba_empty s hz] at h0; simp at h0
          · exact hz
        rw [ba_getD s h1]
        by_cases h3 : s[0].toNat < 128
        · rw [if_pos h3]
          refine ⟨fun hp => by (cases hp), ?_⟩
          intro t rest hp
          simp only [Option.some.injEq, Prod.mk.injEq] at hp
          obtain ⟨rfl, rfl⟩ := hp
          exact first_byte f s w h2 hb h1 h3
        · rw [if_neg h3]
          by_cases h4 : s[0].toNat < 192
          · rw [if_pos h4]
            cases hcut : Itm.cutP 128 s.data.toList with
            | none =>
              refine ⟨fun _ => first_bytes_no s w h2 hb h1 (by omega) h4 hcut, ?_⟩
              intro t rest hp; cases hp
            | some br =>
              obtain ⟨body, rest'⟩ := br
              simp only
              by_cases h5 : Itm.stands body
              · rw [if_pos h5]
                refine ⟨fun _ => first_bytes_stands s w h2 hb h1 (by omega) h4 body rest' hcut h5, ?_⟩
                intro t rest hp; cases hp
              · rw [if_neg h5]
                refine ⟨fun hp => by (cases hp), ?_⟩
                intro t rest hp
                simp only [Option.some.injEq, Prod.mk.injEq] at hp
                obtain ⟨rfl, rfl⟩ := hp
                exact first_bytes_yes f s w h2 hb h1 (by omega) h4 body rest' hcut (by simpa using h5)
          · rw [if_neg h4]
            cases hcut : Itm.cutP 192 s.data.toList with
            | none =>
              refine ⟨fun _ => first_list_cut s w h2 hb h1 (by omega) hcut, ?_⟩
              intro t rest hp; cases hp
            | some br =>
              obtain ⟨body, rest'⟩ := br
              simp only
              obtain ⟨k1, k2⟩ := first_list f s w ih hf h2 hb h1 (by omega) body rest' hcut
              cases hl : Itm.loopP (Itm.parse f) body.length body with
              | none =>
                refine ⟨fun _ => k2 hl, ?_⟩
                intro t rest hp; cases hp
              | some l =>
                refine ⟨fun hp => by (cases hp), ?_⟩
                intro t rest hp
                simp only [Option.some.injEq, Prod.mk.injEq] at hp
                obtain ⟨rfl, rfl⟩ := hp
                exact k1 l hl
    exact ⟨fun s w h1 h2 hp => (key s w h1 h2).1 hp, fun s w t rest h1 h2 hp => (key s w h1 h2).2 t rest hp⟩
end Go.Proofs.Ytbmohenjphmlgaa
