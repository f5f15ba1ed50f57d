/- Part 19 of a proof: what the last text needs. -/
import Derived.Test.YtbmohenjphmlgaaGreatPart18
import Derived.Test.YtbmohenjphmlgaaGreatPart17
import Derived.Test.YtbmohenjphmlgaaGreatPart4
import Derived.Deep.RegionHeld3
import Derived.Deep.AppendLies
import Derived.Test.YtbmohenjphmlgaaGreatPart5
/- The walk of Trust (of the document's own answer). -/
namespace Go.Proofs.YtbmohenjphmlgaaGreat
open Go.RowKit
set_option maxRecDepth 100000

/-- What the document's own keeper does: its answer, what it has then, what it has turned. -/
def RDone (R : Nat → Prop) (w : World) (r0 : Nat) (l : List (Int × ByteArray)) (K : List ByteArray) (w' : World) : Prop :=
  ∃ R', RAt R' w' r0 l K ∧ (∀ k, R' k → R k ∨ w.heap.size ≤ k) ∧ Turns R w w'

theorem rdone_below {R : Nat → Prop} {w w' : World} {r0 : Nat} {l : List (Int × ByteArray)} {K : List ByteArray} (h : RAt R w r0 l K) (hb : Below w.heap.size w w') : RDone R w r0 l K w' :=
  ⟨R, rat_later h hb, fun _ hk => .inl hk, Turns.of_below hb⟩

/-- Other heads are laid into the keeper's first cell. -/
theorem rat_heads {R : Nat → Prop} {w w1 : World} {r0 : Nat} {l l' : List (Int × ByteArray)} {K : List ByteArray} {v' : Value} (h : RAt R w r0 l K) (hb : Below w.heap.size w w1) (ho : HOwn w1 w.heap.size v' l') : RDone R w r0 l' K (w1.setCell ⟨r0, 0, none⟩ v') := by
  have hlt := rat_lt h
  obtain ⟨ah, ch, ak, ck, h⟩ := h
  obtain ⟨a', c', rfl⟩ := hown_shape ho
  have h0 := hlt r0 ((h.own r0).2 (.inl rfl))
  have hc : w1.heap[r0]? = some (.cells #[.slice ah l.length ch, .slice ak K.length ck] 53 (0, 0)) := (hb.block r0 h0).trans h.cell
  have hother : ∀ k, k ≠ r0 → (w1.setCell ⟨r0, 0, none⟩ (.slice a' l'.length c')).heap[k]? = w1.heap[k]? := fun k hk => set_other hk
  have hnew : ∀ g, (Value.slice a' l'.length c').ownBlock = some g → w.heap.size ≤ g := fun g hg => (hown_lt ho g hg).1
  have hsz : (w1.setCell ⟨r0, 0, none⟩ (.slice a' l'.length c')).heap.size = w1.heap.size := by simp [World.setCell]
  refine ⟨fun k => k = r0 ∨ (Value.slice a' l'.length c').ownBlock = some k ∨ (Value.slice ak K.length ck).ownBlock = some k, ⟨a', c', ak, ck, set_first hc, ?_, ?_, fun k => Iff.rfl, ?_, h.nk⟩, ?_, ?_⟩
  · refine hown_frame (b := 0) ?_ (fun g hg => hother g (fun e => by have := hnew g hg; omega))
    exact owns_base ho (Nat.zero_le _)
  · exact town_frame h.kept (fun g hg => by
      rw [hother g (fun e => h.nk (e ▸ hg))]
      exact hb.block g (town_lt h.kept g hg).2)
  · intro e
    have := hnew _ e
    omega
  · rintro k (rfl | hk | hk)
    · exact .inl ((h.own _).2 (.inl rfl))
    · exact .inr (hnew k hk)
    · exact .inl ((h.own _).2 (.inr (.inr hk)))
  · exact ⟨hb.os, hb.tape, hb.output, by rw [hsz]; exact hb.size, fun k hk hn => by rw [hother k (fun e => hn ((h.own k).2 (.inl e)))]; exact hb.block k hk⟩

set_option maxHeartbeats 3200000 in
theorem refTrust_any (R : Nat → Prop) (r0 : Nat) (l : List (Int × ByteArray)) (K : List ByteArray) (x : Int) (r : ByteArray) (w : World) (h : RAt R w r0 l K) (hr : Rises l) (hl : l.length ≤ 8) :
    Calls Tryz.prog 37 #[.pointer (some ⟨r0, 0, none⟩), .int .i64 x, .string r] w fun e w' => e = .returned (.int .i64 ((trustTo l x r).1 : Nat)) ∧ RDone R w r0 (trustTo l x r).2 K w' := by
  have HH := hid h
  obtain ⟨ah, ch, ak, ck, h0⟩ := h
  have HHD := hid (refHead_any r0 ah ch (.slice ak K.length ck) l x w h0.cell (hown_rd h0.heads) (by omega))
  have HRD := hid (hown_rd h0.heads)
  have c0 : w.cell? ⟨r0, 0, none⟩ = some (.slice ah l.length ch) := by rw [cell_of_row _ _ 0 _ _ _ h0.cell]; rfl
  have hlt0 := (Array.getElem?_eq_some_iff.1 h0.cell).1
  have z0 := frozen_of_row _ _ 0 _ _ h0.cell
  have HCELL := hid h0.cell
  clear h0
  by_cases hx : x < 0 ∨ 1000000 < x
  · have HT : Hid (trustTo l x r = (7, l)) := trustTo_height hx
    go_enter Tryz.func37, Tryz.ntmps37
    rcases hx with hx | hx
    · go_wp2_with fail
      go_ret
      rw [HT.out]
      exact ⟨rfl, rdone_below HH.out (Below.refl _ _)⟩
    · have hx0 : ¬ x < 0 := by omega
      go_wp2_with fail
      go_ret
      rw [HT.out]
      exact ⟨rfl, rdone_below HH.out (Below.refl _ _)⟩
  · have hx0 : ¬ x < 0 := by omega
    have hx1 : ¬ (1000000 : Int) < x := by omega
    by_cases h8 : r.size = 8
    · have i8 : ((r.size : Int) == 8) = true := by simp; omega
      have hl8 : (l.length : Int) ≤ 8 := by omega
      go_enter Tryz.func37, Tryz.ntmps37
      go_wp2_with fail
      refine HHD.out.mono ?_
      rintro e w1 ⟨n, rfl, hn, b1⟩
      have HB1 := hid b1
      have x0 := (b1.cell (p := ⟨r0, 0, none⟩) hlt0).trans c0
      rcases hn with ⟨p, hp, rfl, hpx⟩ | ⟨rfl, hne⟩
      · have HT := hid (trustTo_old hx h8 hr hp hpx)
        obtain ⟨b, off, rfl, hb, d0, d1⟩ := HRD.out p hp
        have x1 := (b1.cell (p := ⟨b, off + p * 2 + 1, none⟩) hb).trans d1
        have i1 : (0 : Int) ≤ (p : Int) := by omega
        have i2 : (p : Int) < (l.length : Int) := by omega
        generalize l[p].2 = r' at *
        clear b1 d0 d1 hpx hx
        by_cases he : r' = r
        · rw [if_pos he] at HT
          subst he
          go_wp2_with fail
          go_ret
          rw [HT.out]
          exact ⟨rfl, rdone_below HH.out HB1.out⟩
        · rw [if_neg he] at HT
          have he' := bytes_ne he
          go_wp2_with fail
          go_ret
          rw [HT.out]
          exact ⟨rfl, rdone_below HH.out HB1.out⟩
      · have HT := hid (trustTo_new (r := r) hx h8 hne)
        clear b1 hx
        by_cases hfull : 8 ≤ l.length
        · rw [if_pos hfull] at HT
          have i9 : (8 : Int) ≤ (l.length : Int) := by omega
          go_wp2_with fail
          go_ret
          rw [HT.out]
          exact ⟨rfl, rdone_below HH.out HB1.out⟩
        · rw [if_neg hfull] at HT
          have i9 : ¬ (8 : Int) ≤ (l.length : Int) := by omega
          go_wp2_with fail
          clear x0
          go_loopw [8, 9, 10] (fun v q i wr => ∃ k : Nat, q = .bool (decide (pl l x < k)) ∧ i = .int .i64 k ∧ k ≤ l.length ∧ Hid (HOwn wr w.heap.size v (outAt l x r k) ∧ Below w.heap.size w wr)) (fun _ _ i _ => l.length - (intOf i).toNat)
          case atStart => exact ⟨0, by simp, rfl, Nat.zero_le _, by rw [outAt_zero]; exact hown_nil _ _, HB1.out⟩
          case round =>
            obtain ⟨k, rfl, rfl, hk, HO⟩ := hrel
            obtain ⟨av, cv, rfl⟩ := hown_shape HO.out.1
            have y0 := (HO.out.2.cell (p := ⟨r0, 0, none⟩) hlt0).trans c0
            have HLN := hid (outAt_len l x r k)
            by_cases hlt : k < l.length
            · obtain ⟨b, off, rfl, hb, d0, d1⟩ := HRD.out k hlt
              have x1 := (HO.out.2.cell (p := ⟨b, off + k * 2, none⟩) hb).trans d0
              have x2 := (HO.out.2.cell (p := ⟨b, off + k * 2 + 1, none⟩) hb).trans d1
              have i1 : (0 : Int) ≤ (k : Int) := by omega
              have i2 : (k : Int) < (l.length : Int) := by omega
              rcases Nat.lt_trichotomy k (pl l x) with hc | hc | hc
              · have hd : decide (pl l x < k) = false := decide_eq_false (by omega)
                have HDD : Hid (decide (pl l x < k + 1) = false) := decide_eq_false (by omega)
                have HNX := hid (outAt_before (r := r) hlt hc)
                have i3 := pl_ahead x l k hlt hc
                have i4 : ¬ x < l[k].1 := by omega
                rw [hd]
                generalize l[k] = q at *
                clear d0 d1 i3
                go_wp2_with (at_builtin; refine wpList_push_head rfl (.tmp 70) (.tmp 78) rfl q wr.heap.size rfl rfl rfl HO.out.1 (Below.refl _ _) HO.out.2 (Nat.le_refl _) (by have := HLN.out; omega) ?_; intro v2 w2 ho2 hb2)
                refine ⟨⟨k + 1, by rw [HDD.out], by go_num, by omega, by rw [HNX.out]; exact ho2, hb2⟩, by simp [intOf]; omega⟩
              · have hd : decide (pl l x < k) = false := decide_eq_false (by omega)
                have HDD : Hid (decide (pl l x < k + 1) = true) := decide_eq_true (by omega)
                have HNX := hid (outAt_here (r := r) hlt hc)
                have i4 : x < l[k].1 := by
                  have h1 := pl_stop x l (hc ▸ hlt)
                  have h2 := hne _ (List.getElem_mem hlt)
                  have e : l[pl l x]'(hc ▸ hlt) = l[k] := by congr 1; exact hc.symm
                  rw [e] at h1
                  omega
                rw [hd]
                generalize l[k] = q at *
                have hbb := Nat.lt_of_lt_of_le hb (Nat.le_refl w.heap.size)
                have HD0 := hid d0
                have HD1 := hid d1
                clear d0 d1 hc
                go_wp2_with (first
                  | (at_builtin; refine wpList_push_head rfl (.tmp 64) (.tmp 68) rfl (x, r) wr.heap.size rfl rfl rfl HO.out.1 (Below.refl _ _) HO.out.2 (Nat.le_refl _) (by have := HLN.out; omega) ?_; intro v2 w2 ho2 hb2; obtain ⟨a2, c2, rfl⟩ := hown_shape ho2; rw [List.length_append, List.length_singleton] at ho2; have HO2 := hid ho2; have HB2 := hid hb2; have u0 := (hb2.cell (p := ⟨r0, 0, none⟩) hlt0).trans c0; have u1 := (hb2.cell (p := ⟨b, off + k * 2, none⟩) hb).trans HD0.out; have u2 := (hb2.cell (p := ⟨b, off + k * 2 + 1, none⟩) hb).trans HD1.out; clear ho2 hb2)
                  | (at_builtin; refine wpList_push_head rfl (.tmp 70) (.tmp 78) rfl q w2.heap.size rfl rfl rfl HO2.out (Below.refl _ _) HB2.out (Nat.le_refl _) (by have := HLN.out; rw [List.length_append, List.length_singleton]; omega) ?_; intro v3 w3 ho3 hb3))
                refine ⟨⟨k + 1, by rw [HDD.out], by go_num, by omega, by rw [HNX.out]; exact ho3, hb3⟩, by simp [intOf]; omega⟩
              · have hd : decide (pl l x < k) = true := decide_eq_true (by omega)
                have HDD : Hid (decide (pl l x < k + 1) = true) := decide_eq_true (by omega)
                have HNX := hid (outAt_behind (r := r) hlt hc)
                rw [hd]
                generalize l[k] = q at *
                clear d0 d1
                go_wp2_with (at_builtin; refine wpList_push_head rfl (.tmp 70) (.tmp 78) rfl q wr.heap.size rfl rfl rfl HO.out.1 (Below.refl _ _) HO.out.2 (Nat.le_refl _) (by have := HLN.out; omega) ?_; intro v2 w2 ho2 hb2)
                refine ⟨⟨k + 1, by rw [HDD.out], by go_num, by omega, by rw [HNX.out]; exact ho2, hb2⟩, by simp [intOf]; omega⟩
            · have i2 : ¬ (k : Int) < (l.length : Int) := by omega
              obtain rfl : k = l.length := by omega
              have zz := frozen_of_row _ _ 0 _ _ ((HO.out.2.block r0 hlt0).trans HCELL.out)
              have hpl := pl_le l x
              by_cases hc : pl l x < l.length
              · have hd : decide (pl l x < l.length) = true := decide_eq_true hc
                rw [hd]
                have HE := hid ((outAt_end (r := r)).1 hc)
                go_wp2_with fail
                go_ret
                rw [HT.out]
                refine ⟨rfl, rat_heads HH.out HO.out.2 ?_⟩
                show HOwn _ _ _ (insTo l x r)
                rw [← HE.out]
                exact HO.out.1
              · have hd : decide (pl l x < l.length) = false := decide_eq_false hc
                rw [hd]
                have HE := hid ((outAt_end (r := r)).2 (by omega : pl l x = l.length))
                go_wp2_with (at_builtin; refine wpList_push_head rfl (.tmp 82) (.tmp 86) rfl (x, r) wr.heap.size rfl rfl rfl HO.out.1 (Below.refl _ _) HO.out.2 (Nat.le_refl _) (by have := HLN.out; omega) ?_; intro v2 w2 ho2 hb2; obtain ⟨a2, c2, rfl⟩ := hown_shape ho2; rw [List.length_append, List.length_singleton] at ho2; have HO2 := hid ho2; have HB2 := hid hb2; have u0 := (hb2.cell (p := ⟨r0, 0, none⟩) hlt0).trans c0; have uz := frozen_of_row _ _ 0 _ _ ((hb2.block r0 hlt0).trans HCELL.out); clear ho2 hb2)
                go_ret
                rw [HT.out]
                refine ⟨rfl, rat_heads HH.out HB2.out ?_⟩
                show HOwn _ _ _ (insTo l x r)
                rw [← HE.out]
                exact HO2.out
    · have HT : Hid (trustTo l x r = (5, l)) := trustTo_root hx h8
      have i8 : ((r.size : Int) == 8) = false := by simp; omega
      go_enter Tryz.func37, Tryz.ntmps37
      go_wp2_with fail
      go_ret
      rw [HT.out]
      exact ⟨rfl, rdone_below HH.out (Below.refl _ _)⟩
end Go.Proofs.YtbmohenjphmlgaaGreat

/- The walks of isEmpty, isBranch, isValue, isSum (of the document's own answer). -/
namespace Go.Proofs.YtbmohenjphmlgaaGreat
open Go.RowKit
set_option maxRecDepth 100000

theorem isEmpty_any (t : Itm) (w : World) (a : Option Addr) (cap : Nat) :
    Calls Tryz.prog 106 #[.agg #[.bool t.list, .string ⟨t.bytes.toArray⟩, .slice a t.items.length cap]] w fun e w' => e = .returned (.bool (Tr.isEmpty t)) ∧ Below w.heap.size w w' := by
  obtain ⟨lb, b, l⟩ := t
  cases lb
  · go_enter Tryz.func106, Tryz.ntmps106
    go_wp2_with fail
    go_ret
    exact ⟨by simp [Tr.isEmpty], (Below.refl _ _).alloc (Nat.le_refl _) _⟩
  · go_enter Tryz.func106, Tryz.ntmps106
    go_wp2_with fail
    go_ret
    exact ⟨by simp [Tr.isEmpty], (Below.refl _ _).alloc (Nat.le_refl _) _⟩

theorem isBranch_any (t : Itm) (w : World) (a : Option Addr) (cap : Nat) :
    Calls Tryz.prog 105 #[.agg #[.bool t.list, .string ⟨t.bytes.toArray⟩, .slice a t.items.length cap]] w fun e w' => e = .returned (.bool (Tr.isBranch t)) ∧ Below w.heap.size w w' := by
  obtain ⟨lb, b, l⟩ := t
  cases lb
  · go_enter Tryz.func105, Tryz.ntmps105
    go_wp2_with fail
    go_ret
    exact ⟨by simp [Tr.isBranch], (Below.refl _ _).alloc (Nat.le_refl _) _⟩
  · by_cases h : l.length = 17
    · have hb : ((l.length : Int) == 17) = true := by simp; omega
      go_enter Tryz.func105, Tryz.ntmps105
      go_wp2_with fail
      go_ret
      exact ⟨by simp [Tr.isBranch, h], (Below.refl _ _).alloc (Nat.le_refl _) _⟩
    · have hb : ((l.length : Int) == 17) = false := by simp; omega
      go_enter Tryz.func105, Tryz.ntmps105
      go_wp2_with fail
      go_ret
      exact ⟨by simp [Tr.isBranch, h], (Below.refl _ _).alloc (Nat.le_refl _) _⟩

theorem isValue_any (t : Itm) (w : World) (a : Option Addr) (cap : Nat) :
    Calls Tryz.prog 139 #[.agg #[.bool t.list, .string ⟨t.bytes.toArray⟩, .slice a t.items.length cap]] w fun e w' => e = .returned (.bool (Tr.isValue t)) ∧ Below w.heap.size w w' := by
  obtain ⟨lb, b, l⟩ := t
  cases lb
  · by_cases h : 1 ≤ b.length
    · by_cases h2 : b.length ≤ 40
      · have hb : (1 : Int) ≤ (b.length : Int) := by omega
        have hb2 : (b.length : Int) ≤ 40 := by omega
        go_enter Tryz.func139, Tryz.ntmps139
        go_wp2_with fail
        go_ret
        exact ⟨by simp [Tr.isValue, h, h2], (Below.refl _ _).alloc (Nat.le_refl _) _⟩
      · have hb : (1 : Int) ≤ (b.length : Int) := by omega
        have hb2 : ¬ (b.length : Int) ≤ 40 := by omega
        go_enter Tryz.func139, Tryz.ntmps139
        go_wp2_with fail
        go_ret
        exact ⟨by simp [Tr.isValue, h, h2], (Below.refl _ _).alloc (Nat.le_refl _) _⟩
    · have hb : ¬ (1 : Int) ≤ (b.length : Int) := by omega
      go_enter Tryz.func139, Tryz.ntmps139
      go_wp2_with fail
      go_ret
      exact ⟨by simp [Tr.isValue, h], (Below.refl _ _).alloc (Nat.le_refl _) _⟩
  · go_enter Tryz.func139, Tryz.ntmps139
    go_wp2_with fail
    go_ret
    exact ⟨by simp [Tr.isValue], (Below.refl _ _).alloc (Nat.le_refl _) _⟩

theorem isSum_any (t : Itm) (w : World) (a : Option Addr) (cap : Nat) :
    Calls Tryz.prog 129 #[.agg #[.bool t.list, .string ⟨t.bytes.toArray⟩, .slice a t.items.length cap]] w fun e w' => e = .returned (.bool (Tr.isSum t)) ∧ Below w.heap.size w w' := by
  obtain ⟨lb, b, l⟩ := t
  cases lb
  · by_cases h : b.length = 8
    · have hb : ((b.length : Int) == 8) = true := by simp; omega
      go_enter Tryz.func129, Tryz.ntmps129
      go_wp2_with fail
      go_ret
      exact ⟨by simp [Tr.isSum, h], (Below.refl _ _).alloc (Nat.le_refl _) _⟩
    · have hb : ((b.length : Int) == 8) = false := by simp; omega
      go_enter Tryz.func129, Tryz.ntmps129
      go_wp2_with fail
      go_ret
      exact ⟨by simp [Tr.isSum, h], (Below.refl _ _).alloc (Nat.le_refl _) _⟩
  · go_enter Tryz.func129, Tryz.ntmps129
    go_wp2_with fail
    go_ret
    exact ⟨by simp [Tr.isSum], (Below.refl _ _).alloc (Nat.le_refl _) _⟩
end Go.Proofs.YtbmohenjphmlgaaGreat

/- The walk of digits (of the document's own answer). -/
namespace Go.Proofs.YtbmohenjphmlgaaGreat
open Go.RowKit
set_option maxRecDepth 100000

set_option maxHeartbeats 1600000 in
theorem digits_any (s : ByteArray) (w : World) (hs : s.size ≤ 100000000) : Calls Tryz.prog 72 #[.string s] w fun e w' => ∃ a cap, e = .returned (.slice a (Tr.digits s.data.toList).length cap) ∧ Bown w' w.heap.size (.slice a (Tr.digits s.data.toList).length cap) (Tr.digits s.data.toList) ∧ Below w.heap.size w w' := by
  go_enter Tryz.func72, Tryz.ntmps72
  go_wp2_with fail
  go_loopw [3, 4] (fun l i wr => ∃ k : Nat, i = .int .i64 k ∧ k ≤ s.size ∧ Hid (Bown wr w.heap.size l (Tr.digits (s.data.toList.take k)) ∧ Below w.heap.size w wr)) (fun _ i _ => s.size - (intOf i).toNat)
  case atStart => exact ⟨0, rfl, Nat.zero_le _, bown_nil _ _, Below.refl _ _⟩
  case round =>
    obtain ⟨k, rfl, hk, HH⟩ := hrel
    obtain ⟨ab, cb, hv⟩ := bown_shape HH.out.1
    by_cases hlt : k < s.size
    · subst hv
      have i1 : (0 : Int) ≤ (k : Int) := by omega
      have i2 : (k : Int) < (s.size : Int) := by omega
      have HD : Hid (Tr.digits (s.data.toList.take (k + 1)) = Tr.digits (s.data.toList.take k) ++ [UInt8.ofNat (s[k].toNat / 16), UInt8.ofNat (s[k].toNat % 16)]) := by
        rw [Hid, take_snoc s k hlt, Tr.digits_append]; rfl
      have HLN : Hid ((Tr.digits (s.data.toList.take k)).length + 2 ≤ 1000000000) := by
        rw [Hid, Tr.digits_len, List.length_take]; omega
      have HZ := hid (digit_cells s[k])
      have HH1 := hid HH.out.1
      have HH2 := hid HH.out.2
      generalize Tr.digits (s.data.toList.take k) = dk at *
      go_wp2_with fail
      go_region_held3 (fun _ => True) (trivial) ((refine step_push_bytes rfl (.tmp 11) (.tmp 20) rfl [UInt8.ofNat (s[k].toNat / 16), UInt8.ofNat (s[k].toNat % 16)] _ rfl rfl rfl HH1.out (HH2.out.drew) (Nat.le_refl _) HZ.out HLN.out ?_; intro v' w' ho' hb'; have HO' := hid ho'; have HB' := hid hb'; clear ho' hb'))
      all_goals
        go_wp2_with fail
        exact ⟨⟨k + 1, by go_num, by omega, by rw [HD.out]; exact HO'.out, HB'.out⟩, by simp [intOf]; omega⟩
    · have i2 : ¬ (k : Int) < (s.size : Int) := by omega
      have hke : k = s.size := by omega
      have HK : Hid (Tr.digits (s.data.toList.take k) = Tr.digits s.data.toList) := by rw [Hid, List.take_of_length_le (by rw [ba_len]; omega)]
      rw [HK.out] at hv
      subst hv
      go_wp2_with fail
      go_ret
      refine ⟨ab, cb, rfl, ?_, HH.out.2⟩
      have h := HH.out.1
      rw [HK.out] at h
      exact h
end Go.Proofs.YtbmohenjphmlgaaGreat

/- The walks of 'item' (of the statements' own): some item that has but the fields that its kind uses, of few levels and few bytes, in lists of its own. -/
namespace Go.Proofs.YtbmohenjphmlgaaGreat
open Go.RowKit
set_option maxRecDepth 100000

/-- What 'item' answers. -/
def ItemOk (d : Nat) (s : ByteArray) (w : World) (e : Ending) (w' : World) : Prop :=
  ∃ v t r, e = .returned (.tuple #[v, .string r]) ∧ r.size ≤ s.size ∧ Itm.pure t = true ∧ Itm.deep t ≤ d ∧ (Itm.enc t).length ≤ 68 * (s.size - r.size) + 1 ∧ Ow w' (d + 1) w.heap.size w'.heap.size v t ∧ Below w.heap.size w w'

end Go.Proofs.YtbmohenjphmlgaaGreat

/- The walk of 'item', continued: a list of items, and all of it. -/
namespace Go.Proofs.YtbmohenjphmlgaaGreat
open Go.RowKit
set_option maxRecDepth 100000

/-- An append of one item to a list of the call's own: for a walk. -/
theorem wpList_append_one {ops : Array Oper} {rest : List Oper} {o : Oper} {act : Act} {Q : Exit → Act → World → Prop} (hgd : o.guard = none) (s x : Operand)
    (hop : o.op = .call { callee := .builtin .append, args := #[s, x], argTypes := #[57, 57] })
    {w0 w3 : World} {f lo hi lo1 hi1 g : Nat} {u a b c : Value} {done : List Itm} {y : Itm} (hs : act.eval s = u) (hx : act.eval x = .slice (some ⟨g, 0, none⟩) 1 1) (hg : g = w3.heap.size)
    (hown : OwL w0 f lo hi u done) (hb : Below hi w0 w3) (hy : Ow w3 f lo1 hi1 (.agg #[a, b, c]) y) (h1 : hi ≤ lo1) (h2 : lo ≤ lo1) (h3 : hi1 ≤ w3.heap.size) (h4 : hi ≤ w3.heap.size) (h5 : lo ≤ w3.heap.size)
    (hone : a.oneCell' = true ∧ b.oneCell' = true ∧ c.oneCell' = true) (hn : done.length ≤ 1000000)
    (h : ∀ v' w', OwL w' f lo w'.heap.size v' (done ++ [y]) → Below lo w3 w' → wpList Tryz.prog ops Q rest (act.put o.dst v') w') :
    wpList Tryz.prog ops Q (o :: rest) act (w3.alloc (.cells #[a, b, c] 119)) := by
  subst hg
  obtain ⟨i0, hi0, hz0, hz1, hz2⟩ := info_parts infoItem
  obtain ⟨xs, ho, hgl, L, H, hL, hLH⟩ := hown
  have hbW : Below w3.heap.size w3 (w3.alloc (.cells #[a, b, c] 119)) := (Below.refl _ _).alloc (Nat.le_refl _) _
  have hfr : ∀ k, k < hi → (w3.alloc (.cells #[a, b, c] 119)).heap[k]? = w0.heap[k]? := fun k hk => by rw [hbW.block k (by omega)]; exact hb.block k hk
  refine wpList_append_mine _ hgd s x 57 hop lo 119 i0 _ 3 48 Tryz.underlying57 hi0 hz0 hz1 hz2 rfl (by decide) u done.length xs hs ?_ ⟨w3.heap.size, 0, none⟩ 1 1 [a, b, c] hx rfl ?_ ?_ ?_ ?_ ?_ ?_
  · exact owns_frame ho (fun g hg => hfr g (hgl g hg))
  · exact cells_three w3 a b c 119
  · intro u hu
    simp only [List.mem_cons, List.not_mem_nil, or_false] at hu
    rcases hu with rfl | rfl | rfl
    · exact hone.1
    · exact hone.2.1
    · exact hone.2.2
  · unfold maxLen; omega
  · omega
  · simp; omega
  · intro v' w' ho2 hgr hnew
    refine h v' w' ?_ ?_
    · refine ownL_push ho hgl L H hL hLH (hb.trans (hbW.mono h4)) (own_frame _ _ _ _ _ (fun k _ hk => hbW.block k (by omega)) hy) h1 h2 (by simp; omega) ho2 hgr hnew (by simp; omega)
    · exact (hbW.mono h5).grown hgr (by simp; omega) (fun k hk => (ho.lt k hk).1)

def ItemRel (d : Nat) (s : ByteArray) (w wr : World) (r : ByteArray) (m : Nat) (a : Option Addr) (cap : Nat) (done : List Itm) : Prop :=
  wr.heap[w.heap.size + 1]? = some (.cells #[.bool true, .string ⟨#[]⟩, .slice a done.length cap] 119 (0, 0)) ∧ OwL wr (d + 1) (w.heap.size + 2) wr.heap.size (.slice a done.length cap) done ∧
  Below (w.alloc (.cells #[.bool false, .string ⟨#[]⟩, .slice none 0 0] 119)).heap.size (w.alloc (.cells #[.bool false, .string ⟨#[]⟩, .slice none 0 0] 119)) wr ∧ w.heap.size + 2 ≤ wr.heap.size ∧
  done.all Itm.pure = true ∧ (∀ x ∈ done, Itm.deep x ≤ d) ∧ r.size + 1 ≤ s.size ∧ (done.flatMap Itm.enc).length ≤ 68 * (s.size - 1 - r.size) + done.length ∧ done.length + m ≤ 4

end Go.Proofs.YtbmohenjphmlgaaGreat

/- The walks of the statement Back's own helpers: sameItem, of two items that are the same; short. -/
namespace Go.Proofs.YtbmohenjphmlgaaGreat
open Go.RowKit
set_option maxRecDepth 100000

theorem rep_lift {B : Nat} {w : World} {v : Value} {t : Itm} {n : Nat} (m : Nat) (h : Rep B w n v t) : Rep B w (n + m) v t := by
  induction m with
  | zero => exact h
  | succ m ih => exact rep_more _ _ _ ih

end Go.Proofs.YtbmohenjphmlgaaGreat
