/- Part 3 of a proof: what the last text needs. -/
import Derived.Test.YtbmohenjphmlgaaGreatPart2
import Derived.Deep.RegionWith
import Derived.Laws.BytesArg
import Derived.Lib.ConvBytes
import Derived.Lib.UnsafeStr
import Derived.Test.YtbmohenjphmlgaaGreatPart1
import Derived.Deep.RegionHeld3
import Derived.Deep.AppendLies
/- The walk of 'first': the item that bytes begin with, as 'parse' says, in lists of its own. -/
namespace Go.Proofs.YtbmohenjphmlgaaGreat
open Go.RowKit
set_option maxRecDepth 100000

theorem bcell {W w1 : World} (hb : Below W.heap.size W w1) : (∀ b o, b < W.heap.size → w1.cell? ⟨b, o, none⟩ = W.cell? ⟨b, o, none⟩) ∧ (∀ b o, b < W.heap.size → w1.frozen? ⟨b, o, none⟩ = W.frozen? ⟨b, o, none⟩) :=
  ⟨fun b o h => hb.cell (p := ⟨b, o, none⟩) h, fun b o h => hb.frozen (p := ⟨b, o, none⟩) h⟩

theorem below_undrew {B : Nat} {w w1 : World} (h : Below B w.drew w1) : Below B w w1 := ⟨h.os, h.tape, h.output, h.size, h.block⟩

theorem below_undrewN {B : Nat} (n : Nat) {w w1 : World} (h : Below B (w.drewN n) w1) : Below B w w1 := ⟨h.os, h.tape, h.output, h.size, h.block⟩

theorem drewN_below (w : World) (n : Nat) : Below w.heap.size w (w.drewN n) := ⟨rfl, rfl, rfl, Nat.le_refl _, fun _ _ => rfl⟩

theorem set3 {w1 : World} {g : Nat} {x0 x1 x2 : Value} {e : TypeId} {fz : Nat × Nat} (h : w1.heap[g]? = some (.cells #[x0, x1, x2] e fz)) (a b c : Value) :
    (((w1.setCell ⟨g, 0, none⟩ a).setCell ⟨g, 1, none⟩ b).setCell ⟨g, 2, none⟩ c).cell? ⟨g, 0, none⟩ = some a ∧
    (((w1.setCell ⟨g, 0, none⟩ a).setCell ⟨g, 1, none⟩ b).setCell ⟨g, 2, none⟩ c).cell? ⟨g, 1, none⟩ = some b ∧
    (((w1.setCell ⟨g, 0, none⟩ a).setCell ⟨g, 1, none⟩ b).setCell ⟨g, 2, none⟩ c).cell? ⟨g, 2, none⟩ = some c := by
  simp [World.setCell, World.cell?, Array.getElem?_modify, h]

theorem old_block {w w1 : World} {O : Obj} (hb : Below (w.alloc O).heap.size (w.alloc O) w1) : w1.heap[w.heap.size]? = some O := by
  rw [hb.block _ (by simp)]; exact heap_alloc_new w O

theorem box_below {w w1 : World} {O : Obj} (hb : Below (w.alloc O).heap.size (w.alloc O) w1) (a b c : Value) :
    Below w.heap.size w (((w1.setCell ⟨w.heap.size, 0, none⟩ a).setCell ⟨w.heap.size, 1, none⟩ b).setCell ⟨w.heap.size, 2, none⟩ c) := by
  have h1 : Below w.heap.size w w1 := ((Below.refl w.heap.size w).alloc (Nat.le_refl _) O).trans (hb.mono (by simp))
  exact ((h1.setCell (p := ⟨w.heap.size, 0, none⟩) (Nat.le_refl _) a).setCell (p := ⟨w.heap.size, 1, none⟩) (Nat.le_refl _) b).setCell (p := ⟨w.heap.size, 2, none⟩) (Nat.le_refl _) c

theorem setCell_block (w : World) (a : Addr) (u : Value) (k : Nat) (h : k ≠ a.block) : (w.setCell a u).heap[k]? = w.heap[k]? := Below.heap_setCell w a u k h

theorem box_other {w1 : World} {g k : Nat} (h : k ≠ g) (a b c : Value) :
    (((w1.setCell ⟨g, 0, none⟩ a).setCell ⟨g, 1, none⟩ b).setCell ⟨g, 2, none⟩ c).heap[k]? = w1.heap[k]? := by
  rw [setCell_block _ _ _ _ h, setCell_block _ _ _ _ h, setCell_block _ _ _ _ h]

theorem box_size (w1 : World) (g : Nat) (a b c : Value) :
    (((w1.setCell ⟨g, 0, none⟩ a).setCell ⟨g, 1, none⟩ b).setCell ⟨g, 2, none⟩ c).heap.size = w1.heap.size := by simp [World.setCell]

/-- An item of bytes alone, wherever. -/
theorem ow_bytes (w : World) (n lo hi : Nat) (b : ByteArray) (l : List UInt8) (h : b.data.toList = l) : Ow w (n + 1) lo hi (.agg #[.bool false, .string b, .slice none 0 0]) ⟨false, l, []⟩ :=
  ⟨.slice none 0 0, by rw [str_eq h], ownL_nil _ _ _ _ _⟩

/-- A list, once its items are owned. -/
theorem ow_list {w1 : World} {n lo hi : Nat} {sl : Value} {l : List Itm} (h : OwL w1 n lo hi sl l) : Ow w1 (n + 1) lo hi (.agg #[.bool true, .string ⟨#[]⟩, sl]) ⟨true, [], l⟩ := ⟨sl, rfl, h⟩

theorem ow_box {w1 : World} {g n hi : Nat} {v : Value} {t : Itm} (a b c : Value) (h : Ow w1 n (g + 1) hi v t) :
    Ow (((w1.setCell ⟨g, 0, none⟩ a).setCell ⟨g, 1, none⟩ b).setCell ⟨g, 2, none⟩ c) n (g + 1) hi v t :=
  own_frame n _ _ _ _ (fun k h1 _ => box_other (by omega) a b c) h

section
variable (f : Nat) (s : ByteArray) (w : World)

set_option maxHeartbeats 400000 in
theorem first_empty (hb : s.toList.isEmpty = true) :
    Calls Tryz.prog 147 #[.string s] w fun e w' => (∃ b r, e = .returned (.tuple #[.agg #[.bool b, .string ⟨#[]⟩, .slice none 0 0], .string r, .bool false])) ∧ Below w.heap.size w w' := by
  go_enter Tryz.func147, Tryz.ntmps147
  go_wp2_with fail
  exact bodyPost_ret (v := .tuple #[.agg #[.bool false, .string ⟨#[]⟩, .slice none 0 0], .string ⟨#[]⟩, .bool false]) (by simp [results, Tryz.results147, go_sem]) rfl ⟨⟨_, _, rfl⟩, (Below.refl _ _).alloc (Nat.le_refl _) _⟩

set_option maxHeartbeats 400000 in
theorem first_byte (h2 : s.size ≤ 1000000) (hb : s.toList.isEmpty = false) (h1 : 0 < s.size) (hlt : s[0].toNat < 128) :
    Calls Tryz.prog 147 #[.string s] w fun e w' => ∃ v, e = .returned (.tuple #[v, .string ⟨(s.data.toList.drop 1).toArray⟩, .bool true]) ∧ Ow w' (f + 1) w.heap.size w'.heap.size v ⟨false, s.data.toList.take 1, []⟩ ∧ Below w.heap.size w w' := by
  have hlt' : (s[0].toNat : Int) < 128 := by omega
  go_enter Tryz.func147, Tryz.ntmps147
  go_wp2_with fail
  go_region_with (go_at_call 53; refine (clone_any _ _ (by simp; omega)).mono ?_; rintro e w1 ⟨rfl, hbel⟩; obtain ⟨hc, hf⟩ := bcell hbel)
  all_goals go_wp2_with fail
  all_goals
    have hbel' := below_undrew hbel
    obtain ⟨c0, c1, c2⟩ := set3 (old_block hbel') (.bool false) (.string (s.extract 0 1)) (.slice none 0 0)
    exact bodyPost_ret (v := .tuple #[.agg #[.bool false, .string (s.extract 0 1), .slice none 0 0], .string (s.extract 1 s.size), .bool true]) (by simp [results, Tryz.results147, go_sem, Act.put, c0, c1, c2]) rfl ⟨_, ret3 rfl (str_eq (Lib.extract_to_end _ _)) rfl, ow_bytes _ _ _ _ _ _ (by rw [Lib.extract_data]; simp), box_below hbel' _ _ _⟩

set_option maxHeartbeats 400000 in
theorem first_bytes_no (h2 : s.size ≤ 1000000) (hb : s.toList.isEmpty = false) (h1 : 0 < s.size) (hge : 128 ≤ s[0].toNat) (hlt : s[0].toNat < 192) (hcut : Itm.cutP 128 s.data.toList = none) :
    Calls Tryz.prog 147 #[.string s] w fun e w' => (∃ b r, e = .returned (.tuple #[.agg #[.bool b, .string ⟨#[]⟩, .slice none 0 0], .string r, .bool false])) ∧ Below w.heap.size w w' := by
  have hc : ∀ w, Calls Tryz.prog 157 #[.string s, .int .u8 128] w fun e w' => e = .returned (.tuple #[.string ⟨#[]⟩, .string ⟨#[]⟩, .bool false]) ∧ ∃ nq, w' = w.drewN nq := fun w => cut_no s 128 w (by unfold maxLen; omega) h1 hge (by omega) hcut
  have HC := hid hc
  clear hc hcut
  have hge' : (128 : Int) ≤ (s[0].toNat : Int) := by omega
  have hlt' : (s[0].toNat : Int) < 192 := by omega
  go_enter Tryz.func147, Tryz.ntmps147
  go_wp2_with fail
  refine (HC.out _).mono ?_
  rintro e w1 ⟨rfl, nq, rfl⟩
  go_wp2_with fail
  exact bodyPost_ret (v := .tuple #[.agg #[.bool false, .string ⟨#[]⟩, .slice none 0 0], .string ⟨#[]⟩, .bool false]) (by simp [results, Tryz.results147, go_sem]) rfl ⟨⟨_, _, rfl⟩, box_below (drewN_below _ _) _ _ _⟩

set_option maxHeartbeats 400000 in
theorem first_bytes_stands (h2 : s.size ≤ 1000000) (hb : s.toList.isEmpty = false) (h1 : 0 < s.size) (hge : 128 ≤ s[0].toNat) (hlt : s[0].toNat < 192) (body rest : List UInt8) (hcut : Itm.cutP 128 s.data.toList = some (body, rest)) (hst : Itm.stands body = true) :
    Calls Tryz.prog 147 #[.string s] w fun e w' => (∃ b r, e = .returned (.tuple #[.agg #[.bool b, .string ⟨#[]⟩, .slice none 0 0], .string r, .bool false])) ∧ Below w.heap.size w w' := by
  have hc : ∀ w, Calls Tryz.prog 157 #[.string s, .int .u8 128] w fun e w' => e = .returned (.tuple #[.string ⟨body.toArray⟩, .string ⟨rest.toArray⟩, .bool true]) ∧ ∃ nq, w' = w.drewN nq := fun w => cut_yes s 128 w (by unfold maxLen; omega) h1 hge (by omega) body rest hcut
  have hs2 : ∀ w, Calls Tryz.prog 158 #[.string ⟨body.toArray⟩] w fun e w' => e = .returned (.bool true) ∧ w' = w := fun w => by
    have := stands_any ⟨body.toArray⟩ w
    rw [show Itm.stands ((⟨body.toArray⟩ : ByteArray).data.toList) = true from hst] at this
    exact this
  have HC := hid hc
  have HS := hid hs2
  clear hc hcut hs2 hst
  have hge' : (128 : Int) ≤ (s[0].toNat : Int) := by omega
  have hlt' : (s[0].toNat : Int) < 192 := by omega
  go_enter Tryz.func147, Tryz.ntmps147
  go_wp2_with fail
  refine (HC.out _).mono ?_
  rintro e w1 ⟨rfl, nq, rfl⟩
  go_wp2_with fail
  refine (HS.out _).mono ?_
  rintro e w1 ⟨rfl, rfl⟩
  go_wp2_with fail
  exact bodyPost_ret (v := .tuple #[.agg #[.bool false, .string ⟨#[]⟩, .slice none 0 0], .string ⟨#[]⟩, .bool false]) (by simp [results, Tryz.results147, go_sem]) rfl ⟨⟨_, _, rfl⟩, box_below (drewN_below _ _) _ _ _⟩

set_option maxHeartbeats 400000 in
theorem first_bytes_yes (h2 : s.size ≤ 1000000) (hb : s.toList.isEmpty = false) (h1 : 0 < s.size) (hge : 128 ≤ s[0].toNat) (hlt : s[0].toNat < 192) (body rest : List UInt8) (hcut : Itm.cutP 128 s.data.toList = some (body, rest)) (hst : Itm.stands body = false) :
    Calls Tryz.prog 147 #[.string s] w fun e w' => ∃ v, e = .returned (.tuple #[v, .string ⟨rest.toArray⟩, .bool true]) ∧ Ow w' (f + 1) w.heap.size w'.heap.size v ⟨false, body, []⟩ ∧ Below w.heap.size w w' := by
  have hlen : body.length ≤ 1000000 := by
    have := (Itm.cutP_sound (by intro h; rw [h] at hcut; simp [← ba_len, h] at h1) (by rw [ba_getD s h1]; exact hge) hcut).2.1
    rw [ba_len] at this
    omega
  have hc : ∀ w, Calls Tryz.prog 157 #[.string s, .int .u8 128] w fun e w' => e = .returned (.tuple #[.string ⟨body.toArray⟩, .string ⟨rest.toArray⟩, .bool true]) ∧ ∃ nq, w' = w.drewN nq := fun w => cut_yes s 128 w (by unfold maxLen; omega) h1 hge (by omega) body rest hcut
  have hs2 : ∀ w, Calls Tryz.prog 158 #[.string ⟨body.toArray⟩] w fun e w' => e = .returned (.bool false) ∧ w' = w := fun w => by
    have := stands_any ⟨body.toArray⟩ w
    rw [show Itm.stands ((⟨body.toArray⟩ : ByteArray).data.toList) = false from hst] at this
    exact this
  have hcl : ∀ w, Calls Tryz.prog 53 #[.string ⟨body.toArray⟩] w fun e w' => e = .returned (.string ⟨body.toArray⟩) ∧ Below w.heap.size w w' := fun w => clone_any ⟨body.toArray⟩ w (by show body.toArray.size ≤ _; simp; omega)
  have HC := hid hc
  have HS := hid hs2
  have HD := hid hcl
  clear hc hcut hs2 hst hcl
  have hge' : (128 : Int) ≤ (s[0].toNat : Int) := by omega
  have hlt' : (s[0].toNat : Int) < 192 := by omega
  go_enter Tryz.func147, Tryz.ntmps147
  go_wp2_with fail
  refine (HC.out _).mono ?_
  rintro e w1 ⟨rfl, nq, rfl⟩
  go_wp2_with fail
  refine (HS.out _).mono ?_
  rintro e w1 ⟨rfl, rfl⟩
  go_wp2_with fail
  refine (HD.out _).mono ?_
  rintro e w1 ⟨rfl, hbel⟩
  obtain ⟨hcc, hff⟩ := bcell hbel
  go_wp2_with fail
  have hbel' := below_undrewN _ hbel
  obtain ⟨c0, c1, c2⟩ := set3 (old_block hbel') (.bool false) (.string ⟨body.toArray⟩) (.slice none 0 0)
  exact bodyPost_ret (v := .tuple #[.agg #[.bool false, .string ⟨body.toArray⟩, .slice none 0 0], .string ⟨rest.toArray⟩, .bool true]) (by simp [results, Tryz.results147, go_sem, c0, c1, c2]) rfl ⟨_, rfl, ow_bytes _ _ _ _ _ _ (by simp), box_below hbel' _ _ _⟩

set_option maxHeartbeats 400000 in
theorem first_list_cut (h2 : s.size ≤ 1000000) (hb : s.toList.isEmpty = false) (h1 : 0 < s.size) (hge : 192 ≤ s[0].toNat) (hcut : Itm.cutP 192 s.data.toList = none) :
    Calls Tryz.prog 147 #[.string s] w fun e w' => (∃ b r, e = .returned (.tuple #[.agg #[.bool b, .string ⟨#[]⟩, .slice none 0 0], .string r, .bool false])) ∧ Below w.heap.size w w' := by
  have h8 := s[0].toNat_lt
  have hc : ∀ w, Calls Tryz.prog 157 #[.string s, .int .u8 192] w fun e w' => e = .returned (.tuple #[.string ⟨#[]⟩, .string ⟨#[]⟩, .bool false]) ∧ ∃ nq, w' = w.drewN nq := fun w => cut_no s 192 w (by unfold maxLen; omega) h1 hge (by omega) hcut
  have HC := hid hc
  clear hc hcut
  have hge' : (192 : Int) ≤ (s[0].toNat : Int) := by omega
  go_enter Tryz.func147, Tryz.ntmps147
  go_wp2_with fail
  refine (HC.out _).mono ?_
  rintro e w1 ⟨rfl, nq, rfl⟩
  go_wp2_with fail
  exact bodyPost_ret (v := .tuple #[.agg #[.bool false, .string ⟨#[]⟩, .slice none 0 0], .string ⟨#[]⟩, .bool false]) (by simp [results, Tryz.results147, go_sem]) rfl ⟨⟨_, _, rfl⟩, box_below (drewN_below _ _) _ _ _⟩

set_option maxHeartbeats 400000 in
theorem first_list (hF : FirstOk f) (hf : s.size ≤ f + 1) (h2 : s.size ≤ 1000000) (hb : s.toList.isEmpty = false) (h1 : 0 < s.size) (hge : 192 ≤ s[0].toNat) (body rest : List UInt8) (hcut : Itm.cutP 192 s.data.toList = some (body, rest)) :
    (∀ l, Itm.loopP (Itm.parse f) body.length body = some l → Calls Tryz.prog 147 #[.string s] w fun e w' => ∃ v, e = .returned (.tuple #[v, .string ⟨rest.toArray⟩, .bool true]) ∧ Ow w' (f + 1) w.heap.size w'.heap.size v ⟨true, [], l⟩ ∧ Below w.heap.size w w') ∧
    (Itm.loopP (Itm.parse f) body.length body = none → Calls Tryz.prog 147 #[.string s] w fun e w' => (∃ b r, e = .returned (.tuple #[.agg #[.bool b, .string ⟨#[]⟩, .slice none 0 0], .string r, .bool false])) ∧ Below w.heap.size w w') := by
  have h8 := s[0].toNat_lt
  have hlen : body.length < s.size := by
    have := (Itm.cutP_sound (by intro h; rw [h] at hcut; simp [← ba_len, h] at h1) (by rw [ba_getD s h1]; exact hge) hcut).2.1
    rw [ba_len] at this
    omega
  have hc : ∀ w, Calls Tryz.prog 157 #[.string s, .int .u8 192] w fun e w' => e = .returned (.tuple #[.string ⟨body.toArray⟩, .string ⟨rest.toArray⟩, .bool true]) ∧ ∃ nq, w' = w.drewN nq := fun w => cut_yes s 192 w (by unfold maxLen; omega) h1 hge (by omega) body rest hcut
  have ha := fun w o => all_any f hF ⟨body.toArray⟩ w o (by show body.toArray.size ≤ _; simp; omega) (by show body.toArray.size ≤ _; simp; omega)
  have hbs : (⟨body.toArray⟩ : ByteArray).size = body.length := by show body.toArray.size = _; simp
  rw [hbs] at ha
  have HC := hid hc
  have HA := hid ha
  have hge' : (192 : Int) ≤ (s[0].toNat : Int) := by omega
  clear hc hcut ha hbs
  constructor
  · intro l hl
    have HL := hid hl
    clear hl
    go_enter Tryz.func147, Tryz.ntmps147
    go_wp2_with fail
    refine (HC.out _).mono ?_
    rintro e w1 ⟨rfl, nq, rfl⟩
    go_wp2_with fail
    refine (HA.out _ (some l) HL.out.symm).mono ?_
    rintro e w1 ⟨hyes, _, hbel⟩
    obtain ⟨sl, rfl, hown⟩ := hyes l rfl
    obtain ⟨a2, cap2, rfl⟩ := ownL_len hown
    have HO := hid hown
    clear hyes hown
    obtain ⟨hcc, hff⟩ := bcell hbel
    go_wp2_with fail
    have hbel' := below_undrewN _ hbel
    obtain ⟨c0, c1, c2⟩ := set3 (old_block hbel') (.bool true) (.string ⟨#[]⟩) (.slice a2 l.length cap2)
    refine bodyPost_ret (v := .tuple #[.agg #[.bool true, .string ⟨#[]⟩, .slice a2 l.length cap2], .string ⟨rest.toArray⟩, .bool true]) (by simp [results, Tryz.results147, go_sem, c0, c1, c2]) rfl ⟨_, rfl, ?_, box_below hbel' _ _ _⟩
    rw [box_size]
    refine own_widen (ow_box _ _ _ (ow_list (lo := w.heap.size + 1) ?_)) (Nat.le_succ _) (Nat.le_refl _)
    have := HO.out
    simpa using this
  · intro hn
    have HL := hid hn
    clear hn
    go_enter Tryz.func147, Tryz.ntmps147
    go_wp2_with fail
    refine (HC.out _).mono ?_
    rintro e w1 ⟨rfl, nq, rfl⟩
    go_wp2_with fail
    refine (HA.out _ none HL.out.symm).mono ?_
    rintro e w1 ⟨_, hno, hbel⟩
    obtain rfl := hno rfl
    obtain ⟨hcc, hff⟩ := bcell hbel
    go_wp2_with fail
    have hbel' := below_undrewN _ hbel
    obtain ⟨c0, c1, c2⟩ := set3 (old_block hbel') (.bool true) (.string ⟨#[]⟩) (.slice none 0 0)
    exact bodyPost_ret (v := .tuple #[.agg #[.bool true, .string ⟨#[]⟩, .slice none 0 0], .string ⟨rest.toArray⟩, .bool false]) (by simp [results, Tryz.results147, go_sem, c0, c1, c2]) rfl ⟨⟨_, _, rfl⟩, box_below hbel' _ _ _⟩
end

theorem ba_empty (s : ByteArray) (h : s.size = 0) : s.data.toList = [] := List.eq_nil_of_length_eq_zero (by rw [ba_len]; exact h)

/-- 'first' does what 'parse' says, of however many bytes. -/
theorem first_ok : ∀ f, FirstOk f := by
  intro f
  induction f with
  | zero =>
    refine ⟨?_, ?_⟩
    · intro s w h0 _ _
      exact first_empty s w (by rw [toList_isEmpty, ba_empty s (by omega)]; rfl)
    · intro s w t rest _ _ hp
      rw [Itm.parse_zero] at hp; cases hp
  | succ f ih =>
    have key : ∀ (s : ByteArray) (w : World), s.size ≤ f + 1 → s.size ≤ 1000000 →
        (Itm.parse (f + 1) s.data.toList = none → Calls Tryz.prog 147 #[.string s] w fun e w' => (∃ b r, e = .returned (.tuple #[.agg #[.bool b, .string ⟨#[]⟩, .slice none 0 0], .string r, .bool false])) ∧ Below w.heap.size w w') ∧
        (∀ t rest, Itm.parse (f + 1) s.data.toList = some (t, rest) → Calls Tryz.prog 147 #[.string s] w fun e w' => ∃ v, e = .returned (.tuple #[v, .string ⟨rest.toArray⟩, .bool true]) ∧ Ow w' (f + 1) w.heap.size w'.heap.size v t ∧ Below w.heap.size w w') := by
      intro s w hf h2
      rw [Itm.parse_succ]
      unfold Itm.stepP
      by_cases h0 : s.data.toList.isEmpty
      · rw [if_pos h0]
        refine ⟨fun _ => first_empty s w (by rw [toList_isEmpty]; exact h0), ?_⟩
        intro t rest hp; cases hp
      · rw [if_neg h0]
        have hb : s.toList.isEmpty = false := by rw [toList_isEmpty]; simpa using h0
        have h1 : 0 < s.size := by
          rcases Nat.eq_zero_or_pos s.size with hz | hz
          · rw [ba_empty s hz] at h0; simp at h0
          · exact hz
        rw [ba_getD s h1]
        by_cases h3 : s[0].toNat < 128
        · rw [if_pos h3]
          refine ⟨fun hp => by (cases hp), ?_⟩
          intro t rest hp
          simp only [Option.some.injEq, Prod.mk.injEq] at hp
          obtain ⟨rfl, rfl⟩ := hp
          exact first_byte f s w h2 hb h1 h3
        · rw [if_neg h3]
          by_cases h4 : s[0].toNat < 192
          · rw [if_pos h4]
            cases hcut : Itm.cutP 128 s.data.toList with
            | none =>
              refine ⟨fun _ => first_bytes_no s w h2 hb h1 (by omega) h4 hcut, ?_⟩
              intro t rest hp; cases hp
            | some br =>
              obtain ⟨body, rest'⟩ := br
              simp only
              by_cases h5 : Itm.stands body
              · rw [if_pos h5]
                refine ⟨fun _ => first_bytes_stands s w h2 hb h1 (by omega) h4 body rest' hcut h5, ?_⟩
                intro t rest hp; cases hp
              · rw [if_neg h5]
                refine ⟨fun hp => by (cases hp), ?_⟩
                intro t rest hp
                simp only [Option.some.injEq, Prod.mk.injEq] at hp
                obtain ⟨rfl, rfl⟩ := hp
                exact first_bytes_yes f s w h2 hb h1 (by omega) h4 body rest' hcut (by simpa using h5)
          · rw [if_neg h4]
            cases hcut : Itm.cutP 192 s.data.toList with
            | none =>
              refine ⟨fun _ => first_list_cut s w h2 hb h1 (by omega) hcut, ?_⟩
              intro t rest hp; cases hp
            | some br =>
              obtain ⟨body, rest'⟩ := br
              simp only
              obtain ⟨k1, k2⟩ := first_list f s w ih hf h2 hb h1 (by omega) body rest' hcut
              cases hl : Itm.loopP (Itm.parse f) body.length body with
              | none =>
                refine ⟨fun _ => k2 hl, ?_⟩
                intro t rest hp; cases hp
              | some l =>
                refine ⟨fun hp => by (cases hp), ?_⟩
                intro t rest hp
                simp only [Option.some.injEq, Prod.mk.injEq] at hp
                obtain ⟨rfl, rfl⟩ := hp
                exact k1 l hl
    exact ⟨fun s w h1 h2 hp => (key s w h1 h2).1 hp, fun s w t rest h1 h2 hp => (key s w h1 h2).2 t rest hp⟩
end Go.Proofs.YtbmohenjphmlgaaGreat

/- Rows of bytes: those of the call's own, which grow by append; those that are read alone. -/
namespace Go.Proofs.YtbmohenjphmlgaaGreat
open Go.RowKit
set_option maxRecDepth 100000

theorem infoByte : (Tryz.prog.info? 5).map (fun i => (i.zero, i.size, i.bytes)) = some (some (.int .u8 0), 1, 1) := by kernel_rfl

/-- A row of bytes of the call's own. -/
def Bown (w : World) (base : Nat) (v : Value) (l : List UInt8) : Prop := w.ownsRow base 5 1 v l.length (Lib.byteCells l)

/-- Bytes that can be read. -/
def Brd (B : Nat) (w : World) (v : Value) (l : List UInt8) : Prop :=
  (v = .slice none 0 0 ∧ l = []) ∨ ∃ b off cap, v = .slice (some ⟨b, off, none⟩) l.length cap ∧ b < B ∧ ∀ j (h : j < l.length), w.cell? ⟨b, off + j, none⟩ = some (.int .u8 (l[j].toNat : Nat))

theorem bown_nil (w : World) (base : Nat) : Bown w base (.slice none 0 0) [] := World.ownsRow_nil _ _ _ _

theorem bown_one (w : World) (base : Nat) (c : UInt8) (hb : base ≤ w.heap.size) : Bown (w.alloc (.cells #[.int .u8 (c.toNat : Nat)] 5)) base (.slice (some ⟨w.heap.size, 0, none⟩) 1 1) [c] := by
  have := World.ownsRow_lit (base := base) (e := 5) (size := 1) w #[.int .u8 (c.toNat : Nat)] 1 hb (by unfold maxLen; omega) rfl
  simpa [Bown, Lib.byteCells] using this

theorem bown_frame {w w' : World} {b : Nat} {v : Value} {l : List UInt8} (h : Bown w b v l) (hg : ∀ g, v.ownBlock = some g → w'.heap[g]? = w.heap[g]?) : Bown w' b v l := owns_frame h hg

theorem bown_lt {w : World} {b : Nat} {v : Value} {l : List UInt8} (h : Bown w b v l) : ∀ g, v.ownBlock = some g → b ≤ g ∧ g < w.heap.size := World.ownsRow.lt h

theorem brd_of_bown {w : World} {b : Nat} {v : Value} {l : List UInt8} (h : Bown w b v l) : Brd w.heap.size w v l := by
  rcases h.2 with ⟨rfl, h0⟩ | ⟨g, cap, cur, rfl, hb, hg, _, _, _, _⟩
  · exact .inl ⟨rfl, List.eq_nil_of_length_eq_zero h0⟩
  · refine .inr ⟨g, 0, cap, rfl, (Array.getElem?_eq_some_iff.1 hg).1, ?_⟩
    intro j hj
    rw [Nat.zero_add, World.ownsRow.cellAt h j (by omega)]
    simp [Lib.byteCells, hj]

theorem brd_frame {B : Nat} {w w' : World} {v : Value} {l : List UInt8} (h : Brd B w v l) (hb : Below B w w') : Brd B w' v l := by
  rcases h with h | ⟨b, off, cap, hv, hlt, hc⟩
  · exact .inl h
  · exact .inr ⟨b, off, cap, hv, hlt, fun j hj => by rw [hb.cell hlt]; exact hc j hj⟩

theorem brd_wider {B B' : Nat} {w : World} {v : Value} {l : List UInt8} (h : Brd B w v l) (hB : B ≤ B') : Brd B' w v l := by
  rcases h with h | ⟨b, off, cap, hv, hlt, hc⟩
  · exact .inl h
  · exact .inr ⟨b, off, cap, hv, by omega, hc⟩

theorem brd_in {w w' : World} {v : Value} {l : List UInt8} (h : Brd w.heap.size w v l) (hb : Below w.heap.size w w') : Brd w'.heap.size w' v l := brd_wider (brd_frame h hb) hb.size

theorem brd_shape {B : Nat} {w : World} {v : Value} {l : List UInt8} (h : Brd B w v l) : ∃ a cap, v = .slice a l.length cap := by
  rcases h with ⟨rfl, rfl⟩ | ⟨b, off, cap, hv, _⟩
  · exact ⟨none, 0, rfl⟩
  · exact ⟨_, _, hv⟩

theorem bown_shape {w : World} {b : Nat} {v : Value} {l : List UInt8} (h : Bown w b v l) : ∃ a cap, v = .slice a l.length cap := brd_shape (brd_of_bown h)

theorem cell_fact {w : World} {b off : Nat} {l : List UInt8} (hc : ∀ j (h : j < l.length), w.cell? ⟨b, off + j, none⟩ = some (.int .u8 (l[j].toNat : Nat))) :
    ∀ j u, (Lib.byteCells l)[j]? = some u → w.cell? ((⟨b, off, none⟩ : Addr).add j) = some u := by
  intro j u hu
  have hadd : (⟨b, off, none⟩ : Addr).add j = ⟨b, off + j, none⟩ := by unfold Addr.add; split <;> simp_all
  have hj : j < l.length := by
    have := (List.getElem?_eq_some_iff.1 hu).1
    simpa [Lib.byteCells] using this
  rw [hadd, hc j hj]
  simp [Lib.byteCells, hj] at hu
  rw [hu]

theorem byteCells_one (l : List UInt8) : ∀ u ∈ Lib.byteCells l, u.oneCell' = true := by
  intro u hu
  simp only [Lib.byteCells, List.mem_map] at hu
  obtain ⟨c, _, rfl⟩ := hu
  rfl

/-- append of bytes that can be read, to a row of the call's own: for a walk. -/
theorem wpList_append_bytes {ops : Array Oper} {rest : List Oper} {o : Oper} {act : Act} {Q : Exit → Act → World → Prop} (w : World) (hgd : o.guard = none) (s x : Operand)
    (hop : o.op = .call { callee := .builtin .append, args := #[s, x], argTypes := #[114, 114] })
    (base B : Nat) (v1 v2 : Value) (l1 l2 : List UInt8) (hs : act.eval s = v1) (hx : act.eval x = v2) (h1 : Bown w base v1 l1) (h2 : Brd B w v2 l2) (hlen : l1.length + l2.length ≤ 1000000000) (hbase : base ≤ w.heap.size)
    (h : ∀ v' w', Bown w' base v' (l1 ++ l2) → w.grownBy w' v1.ownBlock → Newer w v1 v' → wpList Tryz.prog ops Q rest (act.put o.dst v') w') :
    wpList Tryz.prog ops Q (o :: rest) act w := by
  obtain ⟨i0, hi, hz0, hz1, hz2⟩ := info_parts infoByte
  rcases h2 with ⟨rfl, rfl⟩ | ⟨b, off, cap, rfl, _, hc⟩
  · refine wpList_plain hgd fun K hK => ?_
    have hr := run_append_owned_none (P := Tryz.prog) w base 114 o.type 5 i0 1 Tryz.underlying114 hi v1 _ _ h1
    unfold Oper.wp execOp
    simp only [hop, resolve, invoke, builtin, Sem.run_bind, Sem.run_pure, Result.andThen_ok, List.map_toArray, List.map_cons, List.map_nil, hs, hx, hr]
    exact hK _ _ (h v1 w (by rw [List.append_nil]; exact h1) (World.grownBy.refl _ _) (.inl rfl))
  · refine wpList_append_mine w hgd s x 114 hop base 5 i0 _ 1 1 Tryz.underlying114 hi hz0 hz1 hz2 rfl (by decide) v1 l1.length (Lib.byteCells l1) hs h1 ⟨b, off, none⟩ l2.length cap (Lib.byteCells l2) hx (by rw [Lib.byteCells_length]; omega) (cell_fact hc) (byteCells_one l2) (by unfold maxLen; omega) (by omega) hbase ?_
    intro v' w' ho hg hn
    refine h v' w' ?_ hg hn
    unfold Bown
    rw [List.length_append, Lib.byteCells_append]
    exact ho

/-- The string that bytes are. -/
theorem run_bytes_string {B : Nat} {w : World} {v : Value} {l : List UInt8} (h : Brd B w v l) : (convert 114 9 v).run Tryz.prog w = .ok (.string ⟨l.toArray⟩) w := by
  rcases h with ⟨rfl, rfl⟩ | ⟨b, off, cap, rfl, _, hc⟩
  · exact run_convert_bytes_nil w 114 5 Tryz.underlying114 Tryz.underlying5 0 0 9 Tryz.underlying9
  · have := run_convert_bytes_arg (P := Tryz.prog) w 114 5 Tryz.underlying114 Tryz.underlying5 b off l.length cap (l.map fun c => (c.toNat : Int)) (by simp) (fun i hi => by
      rw [hc i hi]; simp [hi]) 9 Tryz.underlying9
    rw [this]
    congr 2
    unfold strOfNums
    congr 1
    have hid : ((fun n : Int => UInt8.ofNat n.toNat) ∘ fun c : UInt8 => (c.toNat : Int)) = id := by funext c; simp
    simp [hid]

/-- The bytes of a string, as a new row. -/
theorem brd_bytesWorld (w : World) (s : ByteArray) (cap : Nat) : Brd (Lib.bytesWorld w 5 s).heap.size (Lib.bytesWorld w 5 s) (.slice (some ⟨w.heap.size, 0, none⟩) s.size cap) s.data.toList := by
  refine .inr ⟨w.heap.size, 0, cap, by rw [ba_len], by rw [Lib.bytesWorld_size]; omega, ?_⟩
  intro j hj
  rw [ba_len] at hj
  rw [Nat.zero_add, Lib.bytesWorld_cell w 5 s j hj, List.getD_eq_getElem?_getD, List.getElem?_eq_getElem (by rw [ba_len]; exact hj)]
  rfl

theorem below_bytesWorld (w : World) (s : ByteArray) : Below w.heap.size w (Lib.bytesWorld w 5 s) :=
  ⟨rfl, rfl, rfl, by rw [Lib.bytesWorld_size]; omega, fun k hk => Lib.bytesWorld_at_old w _ s k hk⟩

theorem run_string_bytes (w : World) (s : ByteArray) : (convert 9 114 (.string s)).run Tryz.prog w = .ok (.slice (some ⟨w.heap.size, 0, none⟩) s.size (grownCap w s.size 0 5)) (Lib.bytesWorld w 5 s) :=
  Lib.run_convert_string_bytes w 9 114 5 s Tryz.underlying9 Tryz.underlying114 Tryz.underlying5
end Go.Proofs.YtbmohenjphmlgaaGreat

/- Laws on bytes that are appended, and on sums and digits, for walks. -/
namespace Go.Proofs.YtbmohenjphmlgaaGreat
open Go.RowKit
set_option maxRecDepth 100000

/-- Bytes that were just laid are appended to a row of the call's own: for a walk. -/
theorem wpList_push_bytes {ops : Array Oper} {rest : List Oper} {o : Oper} {act : Act} {Q' : Exit → Act → World → Prop} (hgd : o.guard = none) (s x : Operand)
    (hop : o.op = .call { callee := .builtin .append, args := #[s, x], argTypes := #[114, 114] }) {W wr : World} {B : Nat} {v1 : Value} {l1 : List UInt8} {zs : Array Value} (news : List UInt8) (L : Nat) (hL : wr.heap.size = L)
    (hs : act.eval s = v1) (hx : act.eval x = .slice (some ⟨L, 0, none⟩) news.length news.length) (ho : Bown wr B v1 l1) (hb : Below B W wr) (hB : B ≤ W.heap.size) (hz : zs.toList = Lib.byteCells news) (hlen : l1.length + news.length ≤ 1000000000)
    (h : ∀ v' w', Bown w' B v' (l1 ++ news) → Below B W w' → wpList Tryz.prog ops Q' rest (act.put o.dst v') w') : wpList Tryz.prog ops Q' (o :: rest) act (wr.alloc (.cells zs 5)) := by
  subst hL
  have hb2 : Below B W (wr.alloc (.cells zs 5)) := hb.alloc (Nat.le_trans hB hb.size) _
  have hBw : B ≤ (wr.alloc (.cells zs 5)).heap.size := Nat.le_trans hB hb2.size
  have ho2 : Bown (wr.alloc (.cells zs 5)) B v1 l1 := bown_frame ho (fun g hg => Below.heap_alloc _ _ _ (bown_lt ho g hg).2)
  have hbr : Brd (wr.alloc (.cells zs 5)).heap.size (wr.alloc (.cells zs 5)) (.slice (some ⟨wr.heap.size, 0, none⟩) news.length news.length) news := by
    refine .inr ⟨wr.heap.size, 0, news.length, rfl, by simp, fun j hj => ?_⟩
    rw [cell_of_row _ _ (0 + j) zs _ _ (heap_alloc_new wr _)]
    have : zs[0 + j]? = zs.toList[j]? := by simp
    rw [this, hz]
    simp [Lib.byteCells, List.getElem?_eq_getElem hj]
  refine wpList_append_bytes _ hgd s x hop B _ v1 _ l1 news hs hx ho2 hbr hlen hBw ?_
  intro v' w' ho' hg _
  exact h v' w' ho' (hb2.grown hg hBw (fun g hgg => (bown_lt ho g hgg).1))

theorem fnv_snoc (s : ByteArray) (k : Nat) (h : k < s.size) : Tr.fnv (s.data.toList.take (k + 1)) = Tr.step (Tr.fnv (s.data.toList.take k)) s[k] := by
  rw [take_snoc s k h, Tr.fnv_append]

theorem step_val (h : Nat) (c : UInt8) (hh : h < 18446744073709551616) : IntKind.u64.wrap (bits .xor .u64 (h : Int) (IntKind.u64.wrap (c.toNat : Int)) * 1099511628211) = ((Tr.step h c : Nat) : Int) := by
  have hc : c.toNat < 256 := c.toNat_lt
  have e2 : IntKind.u64.wrap (c.toNat : Int) = (c.toNat : Int) := by rw [IntKind.wrap_u64]; exact Int.emod_eq_of_lt (by omega) (by omega)
  rw [e2, u64_xor_nat _ _ hh (by omega), IntKind.wrap_u64]
  unfold Tr.step
  generalize h ^^^ c.toNat = x
  omega

/-- A byte of the sum, as the walk spells it. -/
theorem sum_byte (n m : Nat) (hn : n < 18446744073709551616) : bits .and .u64 ((n : Int) / 2 ^ (8 * (7 - m))) 255 % 256 = (((Tr.sumAt n m).toNat : Nat) : Int) := by
  have e2 : (n : Int) / 2 ^ (8 * (7 - m)) = ((n / 256 ^ (7 - m) : Nat) : Int) := by
    have : (256 : Nat) ^ (7 - m) = 2 ^ (8 * (7 - m)) := by rw [Nat.pow_mul]
    rw [this]
    simp
  rw [e2]
  have h3 : n / 256 ^ (7 - m) < 18446744073709551616 := Nat.lt_of_le_of_lt (Nat.div_le_self _ _) hn
  have h4 := u64_and_nat (n / 256 ^ (7 - m)) 255 h3 (by decide)
  rw [show ((255 : Nat) : Int) = 255 from rfl] at h4
  rw [h4]
  have h5 : n / 256 ^ (7 - m) &&& 255 = n / 256 ^ (7 - m) % 256 := Nat.and_two_pow_sub_one_eq_mod _ 8
  rw [h5]
  unfold Tr.sumAt
  simp

/-- Bytes that were just laid are appended to a row of the call's own: at a step of a region that draws. -/
theorem step_push_bytes {ops : Array Oper} {o : Oper} {act : Act} {K : Act → World → Prop} {Q' : Exit → Act → World → Prop} {E : Prop} (hgd : o.guard = none) (s x : Operand)
    (hop : o.op = .call { callee := .builtin .append, args := #[s, x], argTypes := #[114, 114] }) {W wr : World} {B : Nat} {v1 : Value} {l1 : List UInt8} {zs : Array Value} (news : List UInt8) (L : Nat) (hL : wr.heap.size = L)
    (hs : act.eval s = v1) (hx : act.eval x = .slice (some ⟨L, 0, none⟩) news.length news.length) (ho : Bown wr B v1 l1) (hb : Below B W wr) (hB : B ≤ W.heap.size) (hz : zs.toList = Lib.byteCells news) (hlen : l1.length + news.length ≤ 1000000000)
    (h : ∀ v' w', Bown w' B v' (l1 ++ news) → Below B W w' → K (act.put o.dst v') w') : if Region.wanted o (yielded ops act.tmps) = true then Oper.wp Tryz.prog o act (wr.alloc (.cells zs 5)) K Q' else E := by
  subst hL
  have hw : Region.wanted o (yielded ops act.tmps) = true := by simp [Region.wanted, hgd]
  rw [if_pos hw]
  obtain ⟨i0, hi, hz0, hz1, hz2⟩ := info_parts infoByte
  have hb2 : Below B W (wr.alloc (.cells zs 5)) := hb.alloc (Nat.le_trans hB hb.size) _
  have hBw : B ≤ (wr.alloc (.cells zs 5)).heap.size := Nat.le_trans hB hb2.size
  have ho2 : Bown (wr.alloc (.cells zs 5)) B v1 l1 := bown_frame ho (fun g hg => Below.heap_alloc _ _ _ (bown_lt ho g hg).2)
  have hnews : ∀ j u, (Lib.byteCells news)[j]? = some u → (wr.alloc (.cells zs 5)).cell? ((⟨wr.heap.size, 0, none⟩ : Addr).add j) = some u := by
    rw [← hz]
    exact World.news_of_block (heap_alloc_new wr _)
  obtain ⟨v', w', hr, h2, h3, _⟩ := run_append_mine (P := Tryz.prog) _ B 114 o.type 5 i0 _ 1 1 Tryz.underlying114 hi hz0 hz1 hz2 rfl (by decide) v1 l1.length (Lib.byteCells l1) ho2 ⟨wr.heap.size, 0, none⟩ news.length news.length (Lib.byteCells news) (by rw [Lib.byteCells_length]; omega) hnews (byteCells_one news) (by unfold maxLen; omega) (by omega) hBw
  unfold Oper.wp execOp
  simp only [hop, resolve, invoke, builtin, Sem.run_bind, Sem.run_pure, Result.andThen_ok, List.map_toArray, List.map_cons, List.map_nil, hs, hx, hr]
  refine h v' w' ?_ (hb2.grown h3 hBw (fun g hgg => (bown_lt ho g hgg).1))
  unfold Bown
  rw [List.length_append, Lib.byteCells_append]
  exact h2

theorem wrap_u8_small (n : Nat) (h : n < 256) : IntKind.u8.wrap (n : Int) = (n : Int) := by rw [IntKind.wrap_u8]; omega

theorem digit_cells (c : UInt8) : #[Value.int .u8 (IntKind.u8.wrap ((c.toNat : Int) / 16)), Value.int .u8 ((c.toNat : Int).tmod 16)].toList = Lib.byteCells [UInt8.ofNat (c.toNat / 16), UInt8.ofNat (c.toNat % 16)] := by
  have := c.toNat_lt
  simp only [Lib.byteCells, List.map_cons, List.map_nil]
  have e1 : (UInt8.ofNat (c.toNat / 16)).toNat = c.toNat / 16 := by simp; omega
  have e2 : (UInt8.ofNat (c.toNat % 16)).toNat = c.toNat % 16 := by simp; omega
  have e3 : (c.toNat : Int) / 16 = ((c.toNat / 16 : Nat) : Int) := by omega
  have e4 : (c.toNat : Int).tmod 16 = ((c.toNat % 16 : Nat) : Int) := by rw [Int.tmod_eq_emod_of_nonneg (by omega)]; omega
  rw [e1, e2, e3, e4, wrap_u8_small _ (by omega)]

end Go.Proofs.YtbmohenjphmlgaaGreat

/- The walks of digitsOf, oneDigit, packed, pathOf (of the program): digits and paths. -/
namespace Go.Proofs.YtbmohenjphmlgaaGreat
open Go.RowKit
set_option maxRecDepth 100000

theorem u8_and15 : ∀ n : Fin 256, bits .and .u8 (n.val : Int) 15 = ((n.val % 16 : Nat) : Int) := by decide +kernel
theorem bits_digit (c : UInt8) : #[Value.int .u8 ((c.toNat : Int) / 16), Value.int .u8 (bits .and .u8 (c.toNat : Int) 15)].toList = Lib.byteCells [UInt8.ofNat (c.toNat / 16), UInt8.ofNat (c.toNat % 16)] := by
  have := c.toNat_lt
  simp only [Lib.byteCells, List.map_cons, List.map_nil]
  have e1 : (UInt8.ofNat (c.toNat / 16)).toNat = c.toNat / 16 := by simp; omega
  have e2 : (UInt8.ofNat (c.toNat % 16)).toNat = c.toNat % 16 := by simp; omega
  have e3 : (c.toNat : Int) / 16 = ((c.toNat / 16 : Nat) : Int) := by omega
  have e4 := u8_and15 ⟨c.toNat, this⟩
  dsimp only at e4
  rw [e1, e2, e3, e4]

set_option maxHeartbeats 1600000 in
theorem digitsOf_any (s : ByteArray) (w : World) (hs : s.size ≤ 100000000) : Calls Tryz.prog 56 #[.string s] w fun e w' => e = .returned (.string ⟨(Tr.digits s.data.toList).toArray⟩) ∧ Below w.heap.size w w' := by
  obtain ⟨i0, hi, hz0, hz1, hz2⟩ := info_parts infoByte
  have HI := hid hi
  have HZ2 : Hid (i0.bytes * (2 * s.size) ≤ 281474976710656) := by rw [Hid, hz2]; omega
  have HML : Hid (2 * s.size ≤ maxLen) := by rw [Hid]; unfold maxLen; omega
  have HZ0 := hid hz0
  have HZ1 := hid hz1
  clear hi hz0 hz1 hz2
  have HD0 : Hid ((2 : Int) * (s.size : Int) = ((2 * s.size : Nat) : Int)) := by rw [Hid]; omega
  go_enter Tryz.func56, Tryz.ntmps56
  go_wp2_with (at_make; go_loud (refine wpList_make_own _ rfl _ (.tmp 7) 114 rfl w.heap.size 5 i0 (.int .u8 0) 1 Tryz.underlying114 HI.out HZ0.out HZ1.out .i64 .i64 _ (2 * s.size) rfl rfl HD0.out HZ2.out HML.out (Nat.le_refl _) ?_); intro w0 hown0 hgrow0; have HO0 := hid hown0; have HG0 := hid hgrow0; clear hown0 hgrow0)
  go_loopw [3, 11] (fun l i wr => ∃ k : Nat, i = .int .i64 k ∧ k ≤ s.size ∧ Hid (Bown wr w.heap.size l (Tr.digits (s.data.toList.take k)) ∧ Below w.heap.size w wr)) (fun _ i _ => s.size - (intOf i).toNat)
  case atStart => exact ⟨0, rfl, Nat.zero_le _, HO0.out, (Below.refl _ _).grown HG0.out (Nat.le_refl _) (fun g hg => by cases hg)⟩
  case round =>
    obtain ⟨k, rfl, hk, HH⟩ := hrel
    obtain ⟨ab, cb, hv⟩ := bown_shape HH.out.1
    by_cases hlt : k < s.size
    · subst hv
      have i1 : (0 : Int) ≤ (k : Int) := by omega
      have i2 : (k : Int) < (s.size : Int) := by omega
      have HD : Hid (Tr.digits (s.data.toList.take (k + 1)) = Tr.digits (s.data.toList.take k) ++ [UInt8.ofNat (s[k].toNat / 16), UInt8.ofNat (s[k].toNat % 16)]) := by
        rw [Hid, take_snoc s k hlt, Tr.digits_append]; rfl
      have HLN : Hid ((Tr.digits (s.data.toList.take k)).length + 2 ≤ 1000000000) := by
        rw [Hid, Tr.digits_len, List.length_take]; omega
      have HZ := hid (bits_digit s[k])
      have HH1 := hid HH.out.1
      have HH2 := hid HH.out.2
      generalize Tr.digits (s.data.toList.take k) = dk at *
      go_wp2_with fail
      go_region_held3 (fun _ => True) (trivial) ((refine step_push_bytes rfl (.tmp 14) (.tmp 23) rfl [UInt8.ofNat (s[k].toNat / 16), UInt8.ofNat (s[k].toNat % 16)] _ rfl rfl rfl HH1.out (HH2.out.drew) (Nat.le_refl _) HZ.out HLN.out ?_; intro v' w' ho' hb'; have HO' := hid ho'; have HB' := hid hb'; clear ho' hb'))
      all_goals
        go_wp2_with fail
        exact ⟨⟨k + 1, by go_num, by omega, by rw [HD.out]; exact HO'.out, HB'.out⟩, by simp [intOf]; omega⟩
    · have i2 : ¬ (k : Int) < (s.size : Int) := by omega
      have hke : k = s.size := by omega
      have HK : Hid (Tr.digits (s.data.toList.take k) = Tr.digits s.data.toList) := by rw [Hid, List.take_of_length_le (by rw [ba_len]; omega)]
      rw [HK.out] at hv
      subst hv
      have hcv := run_bytes_string (brd_of_bown (by have h := HH.out.1; rw [HK.out] at h; exact h))
      go_wp2_with fail
      go_ret
      exact ⟨rfl, HH.out.2⟩

end Go.Proofs.YtbmohenjphmlgaaGreat

/- The walks of pathOf and sumOf (of the program). -/
namespace Go.Proofs.YtbmohenjphmlgaaGreat
open Go.RowKit
set_option maxRecDepth 100000

/-- The eight places of the sum while they are being written. -/
def sumCells (n k : Nat) : Array Value := ((List.range 8).map fun i => if i < k then Value.int .u8 ((Tr.sumAt n i).toNat : Nat) else Value.int .u8 0).toArray

theorem sumCells_at (n k i : Nat) : (sumCells n k)[i]? = if i < 8 then some (if i < k then Value.int .u8 ((Tr.sumAt n i).toNat : Nat) else Value.int .u8 0) else none := by
  unfold sumCells
  by_cases h : i < 8
  · simp [h]
  · simp [h]

theorem sumCells_size (n k : Nat) : (sumCells n k).size = 8 := by simp [sumCells]

theorem sumCells_set (n k : Nat) (hk : k < 8) : (sumCells n k).setIfInBounds k (.int .u8 ((Tr.sumAt n k).toNat : Nat)) = sumCells n (k + 1) := by
  apply Array.ext_getElem?
  intro i
  rw [Array.getElem?_setIfInBounds, sumCells_at, sumCells_at, sumCells_size]
  by_cases h : k = i
  · subst h; simp [hk]
  · rw [if_neg h]
    by_cases h8 : i < 8
    · rw [if_pos h8, if_pos h8]
      by_cases hik : i < k
      · rw [if_pos hik, if_pos (by omega)]
      · rw [if_neg hik, if_neg (by omega)]
    · rw [if_neg h8, if_neg h8]

theorem sum_byte2 (n m : Nat) : (n : Int) / 2 ^ (8 * (7 - m)) % 256 = (((Tr.sumAt n m).toNat : Nat) : Int) := by
  have e2 : (n : Int) / 2 ^ (8 * (7 - m)) = ((n / 256 ^ (7 - m) : Nat) : Int) := by
    have : (256 : Nat) ^ (7 - m) = 2 ^ (8 * (7 - m)) := by rw [Nat.pow_mul]
    rw [this]
    simp
  rw [e2]
  unfold Tr.sumAt
  simp

set_option maxHeartbeats 1600000 in
theorem sumOf_any (s : ByteArray) (w : World) (hs : s.size ≤ 1000000000) : Calls Tryz.prog 132 #[.string s] w fun e w' => e = .returned (.string ⟨(Tr.sum s.data.toList).toArray⟩) ∧ Below w.heap.size w w' := by
  go_enter Tryz.func132, Tryz.ntmps132
  go_wp2_with fail
  go_loopw [3, 9] (fun h i wr => ∃ k : Nat, h = .int .u64 (Tr.fnv (s.data.toList.take k)) ∧ i = .int .i64 k ∧ k ≤ s.size ∧ wr = w) (fun _ i _ => s.size - (intOf i).toNat)
  case atStart => exact ⟨0, by rw [List.take_zero, Tr.fnv_nil]; simp, rfl, Nat.zero_le _, rfl⟩
  case round =>
    obtain ⟨k, rfl, rfl, hk, rfl⟩ := hrel
    by_cases hlt : k < s.size
    · have i1 : (0 : Int) ≤ (k : Int) := by omega
      have i2 : (k : Int) < (s.size : Int) := by omega
      have HF := hid (step_val (Tr.fnv (s.data.toList.take k)) s[k] (Tr.fnv_lt _))
      have HS := hid (fnv_snoc s k hlt)
      go_wp2_with fail
      exact ⟨⟨k + 1, by rw [HF.out, HS.out], by go_num, by omega, trivial⟩, by simp [intOf]; omega⟩
    · have i2 : ¬ (k : Int) < (s.size : Int) := by omega
      have HK : Hid (Tr.fnv (s.data.toList.take k) = Tr.fnv s.data.toList) := by rw [Hid, List.take_of_length_le (by rw [ba_len]; omega)]
      rw [HK.out]
      have HLT := hid (Tr.fnv_lt s.data.toList)
      have HSE := hid (Tr.sum_eq s.data.toList)
      generalize Tr.fnv s.data.toList = n at *
      clear HK hlt hk
      go_wp2_with fail
      go_loopw [20] (fun i wx => ∃ m : Nat, i = .int .i64 (m : Int) ∧ m ≤ 8 ∧ wx = wr.alloc (.cells (sumCells n m) 193)) (fun i _ => (8 - intOf i).toNat)
      case atStart => exact ⟨0, rfl, by omega, rfl⟩
      case round =>
        obtain ⟨m, rfl, hm, rfl⟩ := hrel
        by_cases hlt2 : m < 8
        · have j1 : (m : Int) < 8 := by omega
          have j2 : (0 : Int) ≤ (m : Int) := by omega
          have HC := hid (sumCells_set n m hlt2)
          have hfr := frozen_of_row _ _ m _ _ (heap_alloc_new wr (.cells (sumCells n m) 193))
          have hce : (wr.alloc (.cells (sumCells n m) 193)).cell? ⟨wr.heap.size, m, none⟩ = some (.int .u8 0) := by
            rw [cell_of_row _ _ m _ _ _ (heap_alloc_new wr _), sumCells_at, if_pos hlt2, if_neg (by omega)]
          go_wp2_with fail
          exact ⟨⟨m + 1, by go_num, by omega, by rw [sum_byte2 n m, HC.out]⟩, by simp [intOf]; omega⟩
        · have j1 : ¬ (m : Int) < 8 := by omega
          obtain rfl : m = 8 := by omega
          have hbr : Brd (wr.alloc (.cells (sumCells n 8) 193)).heap.size (wr.alloc (.cells (sumCells n 8) 193)) (.slice (some ⟨wr.heap.size, 0, none⟩) 8 8) ((List.range 8).map (Tr.sumAt n)) := by
            refine .inr ⟨wr.heap.size, 0, 8, by simp, by simp, fun j hj => ?_⟩
            have hj8 : j < 8 := by simpa using hj
            rw [cell_of_row _ _ (0 + j) _ _ _ (heap_alloc_new wr _), sumCells_at, if_pos (by omega), if_pos (by omega)]
            simp
          have hcv := run_bytes_string hbr
          clear hbr
          go_wp2_with fail
          go_ret
          exact ⟨by rw [HSE.out]; rfl, (Below.refl _ _).alloc (Nat.le_refl _) _⟩
end Go.Proofs.YtbmohenjphmlgaaGreat
