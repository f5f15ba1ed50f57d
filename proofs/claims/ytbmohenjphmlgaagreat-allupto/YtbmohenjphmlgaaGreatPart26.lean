/- Part 26 of a proof: what the last text needs. -/
import Derived.Test.YtbmohenjphmlgaaGreatPart1
import Derived.Test.YtbmohenjphmlgaaGreatPart22
import Derived.Test.YtbmohenjphmlgaaGreatPart19
import Derived.Test.YtbmohenjphmlgaaGreatPart25
/- Plain mathematics of trees: the digits of a way are those of the key; how great an item is that was read. -/
namespace Go.Proofs.YtbmohenjphmlgaaGreat
set_option maxRecDepth 100000

theorem Itm.wt_le_enc (t : Itm) : Itm.pure t = true → Itm.wt t ≤ 11 * (Itm.enc t).length := by
  refine Itm.ind (p := fun t => Itm.pure t = true → Itm.wt t ≤ 11 * (Itm.enc t).length) ?_ t
  intro t ih hp
  rw [Itm.pure_eq] at hp
  simp only [Bool.and_eq_true] at hp
  obtain ⟨hp1, hp2⟩ := hp
  rw [Itm.wt_eq, Itm.enc_eq]
  by_cases hl : t.list
  · rw [if_pos hl] at hp1 ⊢
    have hb : t.bytes = [] := by simpa using hp1
    have h1 := Itm.headed_len 192 (t.items.flatMap Itm.enc)
    have h2 : ∀ l : List Itm, (∀ x ∈ l, Itm.wt x ≤ 11 * (Itm.enc x).length) → (l.map Itm.wt).sum ≤ 11 * (l.flatMap Itm.enc).length := by
      intro l
      induction l with
      | nil => intro _; simp
      | cons x l ihl =>
        intro hx
        have a1 := hx x (by simp)
        have a2 := ihl (fun y hy => hx y (by simp [hy]))
        simp only [List.map_cons, List.sum_cons, List.flatMap_cons, List.length_append]
        omega
    have h3 := h2 t.items (fun x hx => ih x hx (by simp only [List.all_eq_true] at hp2; exact hp2 x hx))
    rw [hb]
    simp only [List.length_nil]
    omega
  · rw [if_neg hl] at hp1 ⊢
    have h0 : t.items = [] := by simpa using hp1
    rw [h0]
    simp only [List.map_nil, List.sum_nil]
    have hle : t.bytes.length ≤ (Itm.encB t.bytes).length := by
      unfold Itm.encB
      split
      · exact Nat.le_refl _
      · have := Itm.headed_len 128 t.bytes; omega
    have hpos : 0 < (Itm.encB t.bytes).length := by
      have hne := Itm.enc_ne t
      rw [Itm.enc_eq, if_neg hl] at hne
      exact List.length_pos_iff.2 hne
    omega


end Go.Proofs.YtbmohenjphmlgaaGreat

/- The walk of element (of the document's own answer). -/
namespace Go.Proofs.YtbmohenjphmlgaaGreat
open Go.RowKit
set_option maxRecDepth 100000

/-- What element answers. -/
def ElemPost (s : List UInt8) (w : World) (e : Ending) (w' : World) : Prop :=
  (Tr.whole s = none → e = .returned (.tuple #[.agg #[.bool false, .string ⟨#[]⟩, .slice none 0 0], .bool false])) ∧
  (∀ t, Tr.whole s = some t → ∃ a cap, e = .returned (.tuple #[.agg #[.bool t.list, .string ⟨t.bytes.toArray⟩, .slice a t.items.length cap], .bool (Tr.sound t)]) ∧ Itm.wt t ≤ 1000000 ∧
    Rep w'.heap.size w' 1001 (.agg #[.bool t.list, .string ⟨t.bytes.toArray⟩, .slice a t.items.length cap]) t) ∧ Below w.heap.size w w'

theorem ow_up {w : World} {n lo hi : Nat} {v : Value} {t : Itm} (k : Nat) (h : Ow w n lo hi v t) : Ow w (n + k) lo hi v t := by
  induction k with
  | zero => exact h
  | succ k ih => exact own_more _ _ _ _ _ ih

set_option maxHeartbeats 1600000 in
theorem element_any (s : ByteArray) (w : World) (h : s.size ≤ 1000) : Calls Tryz.prog 103 #[.string s] w (ElemPost s.data.toList w) := by
  have HC := hid (fun w => whole_any s w h)
  have HL : Hid (s.data.toList.length = s.size) := ba_len s
  have HS := hid h
  clear h
  go_enter Tryz.func103, Tryz.ntmps103
  go_wp2_with fail
  refine (HC.out _).mono ?_
  rintro e w1 ⟨hyes, hno, b1⟩
  have HB1 := hid b1
  obtain ⟨x0, x1, x2⟩ := box_third b1
  have hb0 := old_block b1
  have hsz : w.heap.size < w1.heap.size := by have := b1.size; simp at this; omega
  have hf0 := frozen_of_row _ _ 0 _ _ hb0
  have hf1 := frozen_of_row _ _ 1 _ _ hb0
  have hf2 := frozen_of_row _ _ 2 _ _ hb0
  cases hwh : Tr.whole s.data.toList with
  | none =>
    obtain rfl := hno (by have := Tr.whole_none hwh; rwa [HL.out] at this)
    have HW := hid hwh
    clear hyes hno hwh b1
    go_wp2_with fail
    obtain ⟨c0, c1, c2⟩ := set3 hb0 (.bool false) (.string ⟨#[]⟩) (.slice none 0 0)
    exact bodyPost_ret (v := .tuple #[.agg #[.bool false, .string ⟨#[]⟩, .slice none 0 0], .bool false]) (by simp [results, Tryz.results103, go_sem, c0, c1, c2, hsz]) rfl ⟨fun _ => rfl, fun t ht => (by rw [HW.out] at ht; cases ht), (box_below HB1.out _ _ _).alloc (by rw [box_size]; omega) _⟩
  | some t =>
    have hp := Tr.whole_some hwh
    rw [HL.out] at hp
    obtain ⟨v, rfl, hown⟩ := hyes t hp
    obtain ⟨a2, cap2, rfl⟩ := ow_shape hown
    have HW := hid hwh
    have HP := hid hp
    have HO := hid hown
    have HPU := hid (Itm.parse_sound _ _ _ _ hp)
    have hwt : Itm.wt t ≤ 1000000 := by
      have h1 := Itm.wt_le_enc t HPU.out.2
      have h2 := congrArg List.length HPU.out.1
      rw [List.append_nil, HL.out] at h2
      have := HS.out
      omega
    have HRP : Hid (Rep w1.heap.size w1 1001 (.agg #[.bool t.list, .string ⟨t.bytes.toArray⟩, .slice a2 t.items.length cap2]) t) := by
      have h1 := rep_of_own _ _ _ _ _ (Nat.le_refl _) hown
      have h2 := rep_lift (1001 - s.size) h1
      have := HS.out
      rwa [show s.size + (1001 - s.size) = 1001 by omega] at h2
    have HOB : Hid (Own 119 w1 1001 (w.heap.size + 1) w1.heap.size (.agg #[.bool t.list, .string ⟨t.bytes.toArray⟩, .slice a2 t.items.length cap2]) t) := by
      have h2 := ow_up (1001 - s.size) hown
      have := HS.out
      rw [show s.size + (1001 - s.size) = 1001 by omega] at h2
      have h3 : Ow w1 1001 (w.heap.size + 1) w1.heap.size (.agg #[.bool t.list, .string ⟨t.bytes.toArray⟩, .slice a2 t.items.length cap2]) t := by simpa using h2
      exact h3
    have HSO := hid (fun W h => soundR_any 1001 (.agg #[.bool t.list, .string ⟨t.bytes.toArray⟩, .slice a2 t.items.length cap2]) t W h hwt)
    clear hyes hno hwh b1 hp hown HC HO HPU
    go_wp2_with fail
    refine (HSO.out _ (rep_in HRP.out ((Below.refl _ _).alloc (Nat.le_refl _) _))).mono ?_
    rintro e w2 ⟨rfl, b2⟩
    have HB2 := hid (below_of_box b2)
    obtain ⟨y0, y1, y2⟩ := box_third b2
    have hb2 := (HB2.out.block w.heap.size hsz).trans hb0
    have q0 := cell_of_row _ _ 0 _ _ _ hb2
    have q1 := cell_of_row _ _ 1 _ _ _ hb2
    have q2 := cell_of_row _ _ 2 _ _ _ hb2
    have hg0 := frozen_of_row _ _ 0 _ _ hb2
    have hg1 := frozen_of_row _ _ 1 _ _ hb2
    have hg2 := frozen_of_row _ _ 2 _ _ hb2
    have HBT := hid (bb_on HB1.out HB2.out)
    have HO2 : Hid (Own 119 w2 1001 (w.heap.size + 1) w1.heap.size (.agg #[.bool t.list, .string ⟨t.bytes.toArray⟩, .slice a2 t.items.length cap2]) t) := own_frame _ _ _ _ _ (fun k _ hk => HB2.out.block k hk) HOB.out
    clear b2 x0 x1 x2 hf0 hf1 hf2
    go_wp2_with fail
    obtain ⟨c0, c1, c2⟩ := set3 hb2 (.bool t.list) (.string ⟨t.bytes.toArray⟩) (.slice a2 t.items.length cap2)
    refine bodyPost_ret (v := .tuple #[.agg #[.bool t.list, .string ⟨t.bytes.toArray⟩, .slice a2 t.items.length cap2], .bool (Tr.sound t)]) (by simp [results, Tryz.results103, go_sem, c0, c1, c2]) rfl ⟨fun hn => (by rw [HW.out] at hn; cases hn), fun t' ht' => ?_, box_below HBT.out _ _ _⟩
    rw [HW.out] at ht'
    cases ht'
    refine ⟨a2, cap2, rfl, hwt, ?_⟩
    exact rep_of_own _ _ _ _ _ (by rw [box_size]; exact HB2.out.size) (ow_box _ _ _ HO2.out)
end Go.Proofs.YtbmohenjphmlgaaGreat

/- The walk of Verify (of the document's own answer). -/
namespace Go.Proofs.YtbmohenjphmlgaaGreat
open Go.RowKit
set_option maxRecDepth 100000

/-- Texts in a row, that can be read. -/
def TxtRow (W : World) (a : Option Addr) (ss : List ByteArray) : Prop :=
  ∀ i (h : i < ss.length), ∃ b off, a = some ⟨b, off, none⟩ ∧ b < W.heap.size ∧ W.cell? ⟨b, off + i, none⟩ = some (.string ss[i])

/-- Is a proof too great, as far as its first i elements tell? -/
def bigTo (ss : List ByteArray) (i : Nat) : Bool := decide (20 < ss.length) || (ss.take i).any (fun s => decide (1000 < s.size))

theorem bigTo_succ (ss : List ByteArray) (i : Nat) (h : i < ss.length) : bigTo ss (i + 1) = (bigTo ss i || decide (1000 < ss[i].size)) := by
  unfold bigTo
  rw [List.take_succ_eq_append_getElem h, List.any_append]
  simp [Bool.or_assoc]

theorem bigTo_all (ss : List ByteArray) : (bigTo ss ss.length = true) ↔ (20 < (ss.map fun s => s.data.toList).length ∨ ∃ s ∈ (ss.map fun s => s.data.toList), 1000 < s.length) := by
  unfold bigTo
  rw [List.take_length]
  simp only [Bool.or_eq_true, decide_eq_true_eq, List.any_eq_true, List.length_map, List.mem_map]
  constructor
  · rintro (h | ⟨s, hs, h⟩)
    · exact .inl h
    · exact .inr ⟨_, ⟨s, hs, rfl⟩, by rw [ba_len]; exact h⟩
  · rintro (h | ⟨_, ⟨s, hs, rfl⟩, h⟩)
    · exact .inl h
    · exact .inr ⟨s, hs, by rw [ba_len] at h; exact h⟩

/-- What Verify answers. -/
def VerPost (rt key : ByteArray) (ss : List ByteArray) (w : World) (e : Ending) (w' : World) : Prop :=
  e = .returned (.tuple #[.string ⟨(Tr.verify rt.data.toList key.data.toList (ss.map fun s => s.data.toList)).1.toArray⟩, .bool (Tr.verify rt.data.toList key.data.toList (ss.map fun s => s.data.toList)).2.1, .int .i64 (Tr.verify rt.data.toList key.data.toList (ss.map fun s => s.data.toList)).2.2]) ∧ Below w.heap.size w w'

theorem verPost_of {rt key : ByteArray} {ss : List ByteArray} {w w' : World} {v : List UInt8} {f : Bool} {n : Nat} (h : Tr.verify rt.data.toList key.data.toList (ss.map fun s => s.data.toList) = (v, f, n)) (hb : Below w.heap.size w w') : VerPost rt key ss w (.returned (.tuple #[.string ⟨v.toArray⟩, .bool f, .int .i64 n])) w' := by
  unfold VerPost
  rw [h]
  exact ⟨rfl, hb⟩

/-- Between two elements of a proof. -/
structure VerSt (W : World) (X : Nat) (ls : List (List UInt8)) (y0 : Tr.Way) (k : Nat) (wr : World) (y : Tr.Way) (a5 : Option Addr) (c5 : Nat) : Prop where
  row : wr.heap[X]? = some (.cells #[.slice a5 y.digits.length c5, .bool y.branch, .string ⟨y.value.toArray⟩, .bool y.found, .string ⟨y.need.toArray⟩] 117 (0, 0))
  dig : BrdC X wr (.slice a5 y.digits.length c5) y.digits
  inv : Tr.vloop 0 y0 ls = Tr.vloop k y (ls.drop k)
  lt : ∀ c ∈ y.digits, c.toNat < 16
  len : y.digits.length ≤ 1000000
  old : Below W.heap.size W wr
  hX : W.heap.size ≤ X

theorem VerSt.later {W : World} {X : Nat} {ls : List (List UInt8)} {y0 : Tr.Way} {k : Nat} {wr w' : World} {y : Tr.Way} {a5 : Option Addr} {c5 : Nat} (h : VerSt W X ls y0 k wr y a5 c5) (hb : Below wr.heap.size wr w') : VerSt W X ls y0 k w' y a5 c5 := by
  have hlt : X < wr.heap.size := (Array.getElem?_eq_some_iff.1 h.row).1
  exact ⟨(hb.block X hlt).trans h.row, h.dig.frame (hb.mono (Nat.le_of_lt hlt)), h.inv, h.lt, h.len, h.old.trans (hb.mono h.old.size), h.hX⟩

theorem way_facts {w1 : World} {X : Nat} {d0 d1 d2 d3 d4 : Value} (h : w1.heap[X]? = some (.cells #[d0, d1, d2, d3, d4] 117 (0, 0))) :
    w1.cell? ⟨X, 0, none⟩ = some d0 ∧ w1.cell? ⟨X, 1, none⟩ = some d1 ∧ w1.cell? ⟨X, 2, none⟩ = some d2 ∧ w1.cell? ⟨X, 3, none⟩ = some d3 ∧ w1.cell? ⟨X, 4, none⟩ = some d4 ∧
    w1.frozen? ⟨X, 0, none⟩ = false ∧ w1.frozen? ⟨X, 1, none⟩ = false ∧ w1.frozen? ⟨X, 2, none⟩ = false ∧ w1.frozen? ⟨X, 3, none⟩ = false ∧ w1.frozen? ⟨X, 4, none⟩ = false :=
  ⟨by rw [cell_of_row _ _ 0 _ _ _ h]; rfl, by rw [cell_of_row _ _ 1 _ _ _ h]; rfl, by rw [cell_of_row _ _ 2 _ _ _ h]; rfl, by rw [cell_of_row _ _ 3 _ _ _ h]; rfl, by rw [cell_of_row _ _ 4 _ _ _ h]; rfl,
    frozen_of_row _ _ 0 _ _ h, frozen_of_row _ _ 1 _ _ h, frozen_of_row _ _ 2 _ _ h, frozen_of_row _ _ 3 _ _ h, frozen_of_row _ _ 4 _ _ h⟩

theorem drop_map (ss : List ByteArray) (k : Nat) (h : k < ss.length) : (ss.map fun s => s.data.toList).drop k = ss[k].data.toList :: (ss.map fun s => s.data.toList).drop (k + 1) := by
  rw [List.drop_eq_getElem_cons (by simpa using h)]
  simp

section
variable (W : World) (rt key : ByteArray) (a : Option Addr) (cap : Nat) (ss : List ByteArray)

theorem verify_root (h : rt.size ≠ 8) : Calls Tryz.prog 69 #[.string rt, .string key, .slice a ss.length cap] W (VerPost rt key ss W) := by
  have HV : Hid (Tr.verify rt.data.toList key.data.toList (ss.map fun s => s.data.toList) = ([], false, 5)) := by
    rw [Hid]; unfold Tr.verify; rw [if_pos (by rw [ba_len]; exact h)]
  have h' : ((rt.size : Int) == 8) = false := by simp; omega
  go_enter Tryz.func69, Tryz.ntmps69
  go_wp2_with fail
  refine bodyPost_ret (v := .tuple #[.string ⟨#[]⟩, .bool false, .int .i64 5]) (by simp [results, Tryz.results69, go_sem]) rfl ?_
  exact verPost_of (v := []) (n := 5) HV.out (Below.refl _ _)

theorem verify_key (h : rt.size = 8) (h2 : 6 < key.size) : Calls Tryz.prog 69 #[.string rt, .string key, .slice a ss.length cap] W (VerPost rt key ss W) := by
  have HV : Hid (Tr.verify rt.data.toList key.data.toList (ss.map fun s => s.data.toList) = ([], false, 3)) := by
    rw [Hid]; unfold Tr.verify; rw [if_neg (by rw [ba_len]; omega), if_pos (by rw [ba_len]; exact h2)]
  have h' : ((rt.size : Int) == 8) = true := by simp; omega
  have h2' : (6 : Int) < (key.size : Int) := by omega
  clear h
  go_enter Tryz.func69, Tryz.ntmps69
  go_wp2_with fail
  refine bodyPost_ret (v := .tuple #[.string ⟨#[]⟩, .bool false, .int .i64 3]) (by simp [results, Tryz.results69, go_sem]) rfl ?_
  exact verPost_of (v := []) (n := 3) HV.out (Below.refl _ _)

end
end Go.Proofs.YtbmohenjphmlgaaGreat
