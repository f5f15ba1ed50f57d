/- Part 28 of a proof: what the last text needs. -/
import Derived.Test.YtbmohenjphmlgaaGreatPart19
import Derived.Test.YtbmohenjphmlgaaGreatPart27
import Derived.Test.YtbmohenjphmlgaaGreatPart14
import Derived.Test.YtbmohenjphmlgaaGreatPart16
import Derived.Test.YtbmohenjphmlgaaGreatPart17
/- The walk of Offer (of the document's own answer). -/
namespace Go.Proofs.YtbmohenjphmlgaaGreat
open Go.RowKit
set_option maxRecDepth 100000

theorem verify_small {root key : List UInt8} {p : List (List UInt8)} (h : (Tr.verify root key p).2.2 = 0) : p.length ≤ 20 ∧ ∀ s ∈ p, s.length ≤ 1000 := by
  unfold Tr.verify at h
  split at h
  · cases h
  · split at h
    · cases h
    · split at h
      · cases h
      · rename_i h3
        exact ⟨Nat.le_of_not_lt fun h => h3 (.inl h), fun s hs => Nat.le_of_not_lt fun h => h3 (.inr ⟨s, hs, h⟩)⟩

/-- What holds while the elements of a proof are added. -/
structure OffSt (w : World) (r0 : Nat) (hv : Value) (ak : Option Addr) (ck : Nat) (K p : List ByteArray) (i : Nat) (wr : World) (ai : Option Addr) (ci : Nat) (Ki : List ByteArray) : Prop where
  cell : wr.heap[r0]? = some (.cells #[hv, .slice ai Ki.length ci] 53 (0, 0))
  row : TOwn wr 0 (.slice ai Ki.length ci) Ki
  is : bl Ki = Tr.addAll (bl K) (bl (p.take i))
  turn : Turns (fun k => k = r0) w wr
  own : (Value.slice ai Ki.length ci).ownBlock = (Value.slice ak K.length ck).ownBlock ∨ ∀ g, (Value.slice ai Ki.length ci).ownBlock = some g → w.heap.size ≤ g
  small : ∀ e ∈ Ki, e.size ≤ 1000
  len : Ki.length ≤ K.length + i

theorem OffSt.later {w : World} {r0 : Nat} {hv : Value} {ak : Option Addr} {ck : Nat} {K p : List ByteArray} {i : Nat} {wr w' : World} {ai : Option Addr} {ci : Nat} {Ki : List ByteArray} (h : OffSt w r0 hv ak ck K p i wr ai ci Ki) (hb : Below wr.heap.size wr w') : OffSt w r0 hv ak ck K p i w' ai ci Ki :=
  ⟨(hb.block r0 (Array.getElem?_eq_some_iff.1 h.cell).1).trans h.cell, town_later h.row hb, h.is, h.turn.trans (Turns.of_below hb), h.own, h.small, h.len⟩

theorem OffSt.old {w : World} {r0 : Nat} {hv : Value} {ak : Option Addr} {ck : Nat} {K p : List ByteArray} {i : Nat} {wr : World} {ai : Option Addr} {ci : Nat} {Ki : List ByteArray} (h : OffSt w r0 hv ak ck K p i wr ai ci Ki) (hi : i < p.length) (hf : (Tr.find (bl Ki) (Tr.sum p[i].data.toList)).isSome = true) : OffSt w r0 hv ak ck K p (i + 1) wr ai ci Ki := by
  refine ⟨h.cell, h.row, ?_, h.turn, h.own, h.small, Nat.le_trans h.len (by omega)⟩
  rw [bl_take_succ p i hi, Tr.addAll_snoc, ← h.is]
  unfold Tr.add
  rw [if_pos hf]

theorem OffSt.new {w : World} {r0 : Nat} {hv : Value} {ak : Option Addr} {ck : Nat} {K p : List ByteArray} {i : Nat} {wr w1 : World} {ai a' : Option Addr} {ci c' : Nat} {Ki : List ByteArray} (h : OffSt w r0 hv ak ck K p i wr ai ci Ki) (hi : i < p.length) (hf : Tr.find (bl Ki) (Tr.sum p[i].data.toList) = none) (hs : p[i].size ≤ 1000) (hb : Below wr.heap.size wr w1) (ho : TOwn w1 wr.heap.size (.slice a' (Ki ++ [p[i]]).length c') (Ki ++ [p[i]])) :
    OffSt w r0 hv ak ck K p (i + 1) (w1.setCell ⟨r0, 1, none⟩ (.slice a' (Ki ++ [p[i]]).length c')) a' c' (Ki ++ [p[i]]) := by
  have h0 := (Array.getElem?_eq_some_iff.1 h.cell).1
  have hc := (hb.block r0 h0).trans h.cell
  have hnew : ∀ g, (Value.slice a' (Ki ++ [p[i]]).length c').ownBlock = some g → wr.heap.size ≤ g := fun g hg => (town_lt ho g hg).1
  have hother : ∀ k, k ≠ r0 → (w1.setCell ⟨r0, 1, none⟩ (.slice a' (Ki ++ [p[i]]).length c')).heap[k]? = w1.heap[k]? := fun k hk => set_other hk
  have hsz : (w1.setCell ⟨r0, 1, none⟩ (.slice a' (Ki ++ [p[i]]).length c')).heap.size = w1.heap.size := by simp [World.setCell]
  refine ⟨?_, ?_, ?_, ?_, .inr fun g hg => Nat.le_trans h.turn.size (hnew g hg), ?_, ?_⟩
  · rw [heap_setCell_same _ r0 1 _ 53 _ hc]; rfl
  · refine town_frame (b := 0) (owns_base ho (Nat.zero_le _)) (fun g hg => hother g (fun e => by have := hnew g hg; omega))
  · rw [bl_append, bl_take_succ p i hi, Tr.addAll_snoc, ← h.is]
    unfold Tr.add
    rw [hf]
    rfl
  · refine h.turn.trans ⟨hb.os, hb.tape, hb.output, by rw [hsz]; exact hb.size, fun k hk hn => by rw [hother k hn]; exact hb.block k hk⟩
  · intro e he
    rcases List.mem_append.1 he with he | he
    · exact h.small e he
    · rw [List.mem_singleton.1 he]; exact hs
  · rw [List.length_append, List.length_singleton]
    have := h.len
    omega

theorem OffSt.done {R : Nat → Prop} {w : World} {r0 : Nat} {l : List (Int × ByteArray)} {ah ak ai : Option Addr} {ch ck ci : Nat} {K p Ki : List ByteArray} {i : Nat} {wr : World} (h : RAt0 R w r0 ah ch ak ck l K) (ho : OffSt w r0 (.slice ah l.length ch) ak ck K p i wr ai ci Ki) : RDone R w r0 l Ki wr := by
  have hlt := rat_lt ⟨ah, ch, ak, ck, h⟩
  have h0 := hlt r0 ((h.own r0).2 (.inl rfl))
  refine ⟨fun k => k = r0 ∨ (Value.slice ah l.length ch).ownBlock = some k ∨ (Value.slice ai Ki.length ci).ownBlock = some k, ⟨ah, ch, ai, ci, ho.cell, ?_, ho.row, fun k => Iff.rfl, h.nh, ?_⟩, ?_, ?_⟩
  · exact hown_frame h.heads (fun g hg => ho.turn.block g (hown_lt h.heads g hg).2 (fun e => h.nh (e ▸ hg)))
  · intro e
    rcases ho.own with q | q
    · rw [q] at e; exact h.nk e
    · have := q _ e; omega
  · rintro k (rfl | hk | hk)
    · exact .inl ((h.own _).2 (.inl rfl))
    · exact .inl ((h.own _).2 (.inr (.inl hk)))
    · rcases ho.own with q | q
      · rw [q] at hk; exact .inl ((h.own _).2 (.inr (.inr hk)))
      · exact .inr (q _ hk)
  · exact ho.turn.wider (fun k _ hk => (h.own k).2 (.inl hk))

/-- The old elements are laid back. -/
theorem OffSt.back {R : Nat → Prop} {w : World} {r0 : Nat} {l : List (Int × ByteArray)} {ah ak ai : Option Addr} {ch ck ci : Nat} {K p Ki : List ByteArray} {i : Nat} {wr : World} (h : RAt0 R w r0 ah ch ak ck l K) (ho : OffSt w r0 (.slice ah l.length ch) ak ck K p i wr ai ci Ki) : RDone R w r0 l K (wr.setCell ⟨r0, 1, none⟩ (.slice ak K.length ck)) := by
  have hlt := rat_lt ⟨ah, ch, ak, ck, h⟩
  have h0 := hlt r0 ((h.own r0).2 (.inl rfl))
  have hother : ∀ k, k ≠ r0 → (wr.setCell ⟨r0, 1, none⟩ (.slice ak K.length ck)).heap[k]? = wr.heap[k]? := fun k hk => set_other hk
  have hsz : (wr.setCell ⟨r0, 1, none⟩ (.slice ak K.length ck)).heap.size = wr.heap.size := by simp [World.setCell]
  refine ⟨R, ⟨ah, ch, ak, ck, ?_, ?_, ?_, h.own, h.nh, h.nk⟩, fun k hk => .inl hk, ?_⟩
  · rw [heap_setCell_same _ r0 1 _ 53 _ ho.cell]; rfl
  · exact hown_frame h.heads (fun g hg => by rw [hother g (fun e => h.nh (e ▸ hg))]; exact ho.turn.block g (hown_lt h.heads g hg).2 (fun e => h.nh (e ▸ hg)))
  · exact town_frame h.kept (fun g hg => by rw [hother g (fun e => h.nk (e ▸ hg))]; exact ho.turn.block g (town_lt h.kept g hg).2 (fun e => h.nk (e ▸ hg)))
  · refine Turns.wider ⟨ho.turn.os, ho.turn.tape, ho.turn.output, by rw [hsz]; exact ho.turn.size, fun k hk hn => ?_⟩ (fun k _ hk => (h.own k).2 (.inl hk))
    rw [hother k hn]; exact ho.turn.block k hk hn

/-- What is answered when a proof is offered, and what is kept then. -/
def offerAt (l : List (Int × ByteArray)) (S : List (List UInt8)) (x : Int) (key : List UInt8) (p : List (List UInt8)) : Nat × List (List UInt8) :=
  match l.find? fun q => decide (q.1 = x) with
  | none => (10, S)
  | some q => offerTo S q.2.data.toList key p

theorem offerAt_none {l : List (Int × ByteArray)} {S : List (List UInt8)} {x : Int} {key : List UInt8} {p : List (List UInt8)} (h : ∀ q ∈ l, q.1 ≠ x) : offerAt l S x key p = (10, S) := by
  unfold offerAt
  rw [List.find?_eq_none.2 (fun q hq => by simpa using h q hq)]
theorem offerAt_some {l : List (Int × ByteArray)} {S : List (List UInt8)} {x : Int} {key : List UInt8} {p : List (List UInt8)} (hr : Rises l) {i : Nat} (hi : i < l.length) (hx : l[i].1 = x) : offerAt l S x key p = offerTo S l[i].2.data.toList key p := by
  unfold offerAt
  rw [find_head hr hi hx]

/-- What the document's own Offer does. -/
def ROffer (R : Nat → Prop) (r0 : Nat) (l : List (Int × ByteArray)) (K : List ByteArray) (x : Int) (key : ByteArray) (p : List ByteArray) (w : World) (e : Ending) (w' : World) : Prop :=
  e = .returned (.int .i64 ((offerAt l (bl K) x key.data.toList (bl p)).1 : Nat)) ∧ ∃ K', bl K' = (offerAt l (bl K) x key.data.toList (bl p)).2 ∧ (∀ e ∈ K', e.size ≤ 1000) ∧ RDone R w r0 l K' w'

set_option maxHeartbeats 3200000 in
theorem refOffer_any (R : Nat → Prop) (r0 : Nat) (l : List (Int × ByteArray)) (K : List ByteArray) (x : Int) (key : ByteArray) (a : Option Addr) (cap : Nat) (p : List ByteArray) (w : World) (h : RAt R w r0 l K) (hr : Rises l) (hl : l.length ≤ 8) (hK : K.length ≤ 200) (hs : ∀ e ∈ K, e.size ≤ 1000)
    (hp : SRd w.heap.size w a p) (hpl : p.length ≤ 8796093022208) (hna : ∀ b off, a = some ⟨b, off, none⟩ → p.length ≠ 0 → b ≠ r0) :
    Calls Tryz.prog 41 #[.pointer (some ⟨r0, 0, none⟩), .int .i64 x, .string key, .slice a p.length cap] w (ROffer R r0 l K x key p w) := by
  have HH := hid h
  obtain ⟨ah, ch, ak, ck, h0⟩ := h
  have H0 := hid h0
  have HHD := hid (refHead_any r0 ah ch (.slice ak K.length ck) l x w h0.cell (hown_rd h0.heads) (by omega))
  have HRD := hid (hown_rd h0.heads)
  have c0 : w.cell? ⟨r0, 0, none⟩ = some (.slice ah l.length ch) := by rw [cell_of_row _ _ 0 _ _ _ h0.cell]; rfl
  have c1 : w.cell? ⟨r0, 1, none⟩ = some (.slice ak K.length ck) := by rw [cell_of_row _ _ 1 _ _ _ h0.cell]; rfl
  have hlt0 := (Array.getElem?_eq_some_iff.1 h0.cell).1
  have HP := hid hp
  have HPL := hid hpl
  have HS := hid hs
  have HNA := hid hna
  clear h0 hp hpl hs hna
  go_enter Tryz.func41, Tryz.ntmps41
  go_wp2_with fail
  refine HHD.out.mono ?_
  rintro e w1 ⟨n, rfl, hn, b1⟩
  have HB1 := hid b1
  have x0 := (b1.cell (p := ⟨r0, 0, none⟩) hlt0).trans c0
  have x1 := (b1.cell (p := ⟨r0, 1, none⟩) hlt0).trans c1
  rcases hn with ⟨i, hi, rfl, hix⟩ | ⟨rfl, hne⟩
  · have HT := hid (offerAt_some (S := bl K) (key := key.data.toList) (p := bl p) hr hi hix)
    obtain ⟨bh, oh, rfl, hbh, d0, d1⟩ := HRD.out i hi
    have x2 := (b1.cell (p := ⟨bh, oh + i * 2 + 1, none⟩) hbh).trans d1
    have i1 : ¬ (i : Int) < 0 := by omega
    have i2 : (i : Int) < (l.length : Int) := by omega
    have HV := hid (refVerify_any w1 l[i].2 key a cap p ((HP.out.later b1).wider b1.size) HPL.out)
    have HQ : Hid (w.heap.size ≤ w1.heap.size) := b1.size
    generalize l[i].2 = r' at *
    clear b1 d0 d1 hix
    go_wp2_with fail
    refine HV.out.mono ?_
    rintro e w2 ⟨rfl, b2⟩
    have HB2 : Hid (Below w.heap.size w w2) := HB1.out.trans (b2.mono HQ.out)
    have y1 := (HB2.out.cell (p := ⟨r0, 1, none⟩) hlt0).trans c1
    clear b2 x0 x1 x2
    have HBL : Hid ((p.map fun s => s.data.toList) = bl p) := rfl
    rw [HBL.out]
    generalize hver : Tr.verify r'.data.toList key.data.toList (bl p) = V at *
    obtain ⟨vv, vf, vn⟩ := V
    by_cases hv0 : vn = 0
    · subst hv0
      obtain ⟨hp20, hps⟩ := verify_small (root := r'.data.toList) (key := key.data.toList) (p := bl p) (by rw [hver])
      have hp20' : p.length ≤ 20 := by simpa [bl] using hp20
      have HPS : Hid (∀ s ∈ p, s.size ≤ 1000) := fun s hs => by have := hps _ (List.mem_map.2 ⟨s, hs, rfl⟩); rwa [ba_len] at this
      have HOF : Hid (offerAt l (bl K) x key.data.toList (bl p) = if 200 < (Tr.addAll (bl K) (bl p)).length then (9, bl K) else (0, Tr.addAll (bl K) (bl p))) := by
        rw [Hid, HT.out]; unfold offerTo; rw [hver, if_neg (by simp)]
      have HO0 : Hid (OffSt w r0 (.slice (some ⟨bh, oh, none⟩) l.length ch) ak ck K p 0 w2 ak ck K) := ⟨(HB2.out.block r0 hlt0).trans H0.out.cell, town_later H0.out.kept HB2.out, rfl, Turns.of_below HB2.out, .inl rfl, HS.out, Nat.le_refl _⟩
      clear hp20 hps hver
      go_wp2_with fail
      go_loopw [14] (fun i wr => ∃ (k : Nat) (ai : Option Addr) (ci : Nat) (Ki : List ByteArray), i = .int .i64 k ∧ k ≤ p.length ∧ Hid (OffSt w r0 (.slice (some ⟨bh, oh, none⟩) l.length ch) ak ck K p k wr ai ci Ki)) (fun i _ => p.length - (intOf i).toNat)
      case atStart => exact ⟨0, ak, ck, K, rfl, Nat.zero_le _, HO0.out⟩
      case round =>
        obtain ⟨k, ai, ci, Ki, rfl, hk, HO⟩ := hrel
        by_cases hlt : k < p.length
        · obtain ⟨b, off, rfl, hb, d0⟩ := HP.out k hlt
          have hne := HNA.out b off rfl (by omega)
          have i4 : (k : Int) < (p.length : Int) := by omega
          have i5 : (0 : Int) ≤ (k : Int) := by omega
          have y2 := (turns_cell (off := off + k) HO.out.turn hb hne).trans d0
          have HSZ := hid (HPS.out _ (List.getElem_mem hlt))
          have HOLD := hid (fun wx (h : OffSt w r0 (.slice (some ⟨bh, oh, none⟩) l.length ch) ak ck K p k wx ai ci Ki) hf => h.old hlt hf)
          have HNEW := hid (fun wx w1 a' c' (h : OffSt w r0 (.slice (some ⟨bh, oh, none⟩) l.length ch) ak ck K p k wx ai ci Ki) hf hb ho => OffSt.new (w1 := w1) (a' := a') (c' := c') h hlt hf HSZ.out hb ho)
          have HSUM := hid (fun w => sumR_any p[k] w (by have := HSZ.out; omega))
          have hKl : Ki.length ≤ 220 := by have := HO.out.len; omega
          have HFIND := hid (fun wx (h : OffSt w r0 (.slice (some ⟨bh, oh, none⟩) l.length ch) ak ck K p k wx ai ci Ki) s => refFind_any r0 ai ci (.slice (some ⟨bh, oh, none⟩) l.length ch) Ki s wx h.cell (town_rd h.row) (by omega) h.small)
          generalize p[k] = s at *
          obtain ⟨E, hE⟩ : ∃ E : ByteArray, E = ⟨(Tr.sum s.data.toList).toArray⟩ := ⟨_, rfl⟩
          rw [← hE] at HSUM
          have HED : Hid (E.data.toList = Tr.sum s.data.toList) := by rw [hE]; rfl
          have HD0 := hid d0
          clear hE d0 y1
          go_wp2_with fail
          refine (HSUM.out _).mono ?_
          rintro e w3 ⟨rfl, b3⟩
          have HO3 := hid (HO.out.later b3)
          clear b3
          go_wp2_with fail
          refine (HFIND.out _ HO3.out E).mono ?_
          rintro e w4 ⟨t, fd, rfl, hfd, b4⟩
          have HO4 := hid (HO3.out.later b4)
          clear b4 y2
          have y2 := (turns_cell (off := off + k) HO4.out.turn hb hne).trans HD0.out
          have y3 : w4.cell? ⟨r0, 1, none⟩ = some (.slice ai Ki.length ci) := by rw [cell_of_row _ _ 1 _ _ _ HO4.out.cell]; rfl
          rcases hfd with ⟨rfl, _, hf⟩ | ⟨rfl, _, hf⟩
          · have HN := hid (HOLD.out _ HO4.out (by rw [← HED.out, hf]; rfl))
            clear hf
            go_wp2_with fail
            exact ⟨⟨k + 1, ai, ci, Ki, by go_num, by omega, HN.out⟩, by simp [intOf]; omega⟩
          · have HF := hid hf
            clear hf
            go_wp2_with (first
              | (at_builtin; refine wpList_append_texts _ rfl (.tmp 63) (.tmp 67) rfl w4.heap.size w4.heap.size (.slice none 0 0) ai ci [] Ki rfl rfl (town_nil _ _) (town_rd HO4.out.row) (town_none HO4.out.row) (by simp; omega) (Nat.le_refl _) ?_
                 intro v5 w5 ho5 hg5 _
                 have hb5 : Below w4.heap.size w4 w5 := ⟨hg5.os, hg5.tape, hg5.output, hg5.size, fun k hk => hg5.block k hk (by simp [Value.ownBlock])⟩
                 rw [List.nil_append] at ho5
                 have y5 := (hb5.cell (p := ⟨b, off + k, none⟩) (World.block_lt_of_cell? _ _ y2)).trans y2
                 have HO5 := hid ho5
                 have HB5 := hid hb5
                 clear ho5 hg5 hb5)
              | (at_builtin; refine wpList_push_text rfl (.tmp 70) (.tmp 75) rfl s w5.heap.size rfl rfl rfl HO5.out (Below.refl _ _) HB5.out (Nat.le_refl _) (by omega) ?_
                 intro v6 w6 ho6 hb6
                 obtain ⟨a6, c6, rfl, _⟩ := town_shape ho6
                 have z6 := frozen_of_row _ _ 1 _ _ ((hb6.block r0 (Array.getElem?_eq_some_iff.1 HO4.out.cell).1).trans HO4.out.cell)
                 have u6 := (hb6.cell (p := ⟨r0, 1, none⟩) (Array.getElem?_eq_some_iff.1 HO4.out.cell).1).trans y3
                 have HN := hid (HNEW.out _ _ a6 c6 HO4.out (by rw [← HED.out]; exact HF.out) hb6 ho6)
                 clear ho6 hb6))
            refine ⟨⟨k + 1, a6, c6, Ki ++ [s], by go_num, by omega, ?_⟩, by simp [intOf]; omega⟩
            have := HN.out
            rw [show (Ki ++ [s]).length = Ki.length + 1 by simp] at this
            exact this
        · obtain rfl : k = p.length := by omega
          have i4 : ¬ (p.length : Int) < (p.length : Int) := by omega
          have y3 : wr.cell? ⟨r0, 1, none⟩ = some (.slice ai Ki.length ci) := by rw [cell_of_row _ _ 1 _ _ _ HO.out.cell]; rfl
          have z3 := frozen_of_row _ _ 1 _ _ HO.out.cell
          have HIS : Hid (bl Ki = Tr.addAll (bl K) (bl p)) := by have := HO.out.is; rwa [List.take_length] at this
          have HLE : Hid ((Tr.addAll (bl K) (bl p)).length = Ki.length) := by rw [Hid, ← HIS.out]; simp [bl]
          rw [HLE.out] at HOF
          by_cases h200 : 200 < Ki.length
          · rw [if_pos h200] at HOF
            have j1 : (200 : Int) < (Ki.length : Int) := by omega
            have HD := hid (OffSt.back H0.out HO.out)
            go_wp2_with fail
            go_ret
            unfold ROffer
            rw [HOF.out]
            exact ⟨rfl, K, rfl, HS.out, HD.out⟩
          · rw [if_neg h200] at HOF
            have j1 : ¬ (200 : Int) < (Ki.length : Int) := by omega
            have HD := hid (OffSt.done H0.out HO.out)
            go_wp2_with fail
            go_ret
            unfold ROffer
            rw [HOF.out]
            exact ⟨rfl, Ki, HIS.out, HO.out.small, HD.out⟩
    · have HOF : Hid (offerAt l (bl K) x key.data.toList (bl p) = (vn, bl K)) := by
        rw [Hid, HT.out]; unfold offerTo; rw [hver]; exact if_pos hv0
      have i3 : ((vn : Int) == 0) = false := by simp; omega
      clear hver hv0
      go_wp2_with fail
      go_ret
      unfold ROffer
      rw [HOF.out]
      exact ⟨rfl, K, rfl, HS.out, rdone_below HH.out HB2.out⟩
  · have HT := hid (offerAt_none (S := bl K) (key := key.data.toList) (p := bl p) hne)
    clear b1
    go_wp2_with fail
    go_ret
    unfold ROffer
    rw [HT.out]
    exact ⟨rfl, K, rfl, HS.out, rdone_below HH.out HB1.out⟩
end Go.Proofs.YtbmohenjphmlgaaGreat

/- What the document's own keeper is asked: what holds on the way. -/
namespace Go.Proofs.YtbmohenjphmlgaaGreat
open Go.RowKit
set_option maxRecDepth 100000

namespace Tr

/-- What a store tells from here on; first: at the first element of a way. -/
def rest (S : List (List UInt8)) (first : Bool) (f : Nat) (y : Way) : Option Way :=
  if first then (match find S y.need with | none => none | some e => thru S 20 (vstep 0 y e)) else tellW S f y

theorem rest_lost {S : List (List UInt8)} {first : Bool} {f : Nat} {y : Way} (hn : y.need ≠ []) (hf : find S y.need = none) : rest S first f y = none := by
  unfold rest
  cases first with
  | true => rw [if_pos rfl, hf]
  | false => rw [if_neg (by decide)]; exact tellW_lost hn hf

theorem rest_short {S : List (List UInt8)} {f : Nat} {y : Way} {e : List UInt8} (hn : y.need ≠ []) (hf : find S y.need = some e) (h8 : e.length < 8) : rest S false f y = none := by
  unfold rest
  rw [if_neg (by decide)]
  cases f with
  | zero => rw [tellW, if_neg hn]
  | succ f => rw [tellW_next hn hf, vstep_c (by decide) h8]; rfl

theorem rest_go {S : List (List UInt8)} {first : Bool} {f : Nat} {y : Way} {e : List UInt8} {t : Itm} (hn : y.need ≠ []) (hf : find S y.need = some e) (hr : reads e = some t) (h8 : first = false → 8 ≤ e.length) (hl : first = false → y.digits.length < f) :
    rest S first f y = thru S (if first then 20 else f - 1) (goes t y.digits y.branch) := by
  have hs := (find_some hf).2
  have hv : ∀ i, (0 < i → 8 ≤ e.length) → vstep i y e = goes t y.digits y.branch := fun i hi => by
    rw [vstep_reads, hr, if_neg]
    simp only [Bool.or_eq_true, Bool.and_eq_true, decide_eq_true_eq, bne_iff_ne, not_or, not_and]
    exact ⟨⟨hn, fun h => h hs⟩, fun h1 h2 => by have := hi h1; omega⟩
  unfold rest
  cases first with
  | true => rw [if_pos rfl, if_pos rfl, hf]; show thru S 20 (vstep 0 y e) = _; rw [hv 0 (by omega)]
  | false =>
    rw [if_neg (by decide), if_neg (by decide)]
    have := hl rfl
    cases f with
    | zero => omega
    | succ f => rw [tellW_next hn hf, hv 1 (fun _ => h8 rfl)]; rfl

theorem rest_end {S : List (List UInt8)} {f : Nat} {y : Way} (hn : y.need = []) : rest S false f y = some y := by
  unfold rest
  rw [if_neg (by decide)]
  exact tellW_end hn

theorem rest_first (S : List (List UInt8)) (root key : List UInt8) (f : Nat) : tellR S root key = rest S true f ⟨digits key, false, [], false, root⟩ := by
  unfold rest tellR
  rw [if_pos rfl]
  rfl

theorem tell_is {S : List (List UInt8)} {root key : List UInt8} (h : ¬ 6 < key.length) : tell S root key = tellEnd (tellR S root key) := if_neg h
end Tr

/-- What is told of a key at a height. -/
def tellAt (l : List (Int × ByteArray)) (S : List (List UInt8)) (x : Int) (key : List UInt8) : List UInt8 × Bool × Nat :=
  match l.find? fun q => decide (q.1 = x) with
  | none => ([], false, 10)
  | some q => Tr.tell S q.2.data.toList key

theorem tellAt_none {l : List (Int × ByteArray)} {S : List (List UInt8)} {x : Int} {key : List UInt8} (h : ∀ q ∈ l, q.1 ≠ x) : tellAt l S x key = ([], false, 10) := by
  unfold tellAt
  rw [List.find?_eq_none.2 (fun q hq => by simpa using h q hq)]
theorem tellAt_some {l : List (Int × ByteArray)} {S : List (List UInt8)} {x : Int} {key : List UInt8} (hr : Rises l) {i : Nat} (hi : i < l.length) (hx : l[i].1 = x) : tellAt l S x key = Tr.tell S l[i].2.data.toList key := by
  unfold tellAt
  rw [find_head hr hi hx]

/-- What the document's own Get answers. -/
def RGet (o : List UInt8 × Bool × Nat) (w : World) (e : Ending) (w' : World) : Prop :=
  e = .returned (.tuple #[.string ⟨o.1.toArray⟩, .bool o.2.1, .int .i64 (o.2.2 : Nat)]) ∧ Below w.heap.size w w'

theorem rget_of {o : List UInt8 × Bool × Nat} {v : List UInt8} {f : Bool} {n : Nat} {w w' : World} (h : o = (v, f, n)) (hb : Below w.heap.size w w') : RGet o w (.returned (.tuple #[.string ⟨v.toArray⟩, .bool f, .int .i64 n])) w' := by
  subst h
  exact ⟨rfl, hb⟩

/-- An element that can be read is read. -/
def WholeT (t : Itm) (w : World) (e : Ending) (w' : World) : Prop :=
  ∃ a cap, e = .returned (.tuple #[.agg #[.bool t.list, .string ⟨t.bytes.toArray⟩, .slice a t.items.length cap], .bool true]) ∧ Itm.wt t ≤ 1000000 ∧ Rep w'.heap.size w' 1001 (.agg #[.bool t.list, .string ⟨t.bytes.toArray⟩, .slice a t.items.length cap]) t ∧ Below w.heap.size w w'

theorem wholeT_any (s : ByteArray) (w : World) (h : s.size ≤ 1000) (t : Itm) (ht : Tr.reads s.data.toList = some t) : Calls Tryz.prog 73 #[.string s] w (WholeT t w) := by
  refine (whole_any s w h).mono ?_
  rintro e w' ⟨hyes, _, hb⟩
  have hp := Tr.whole_some (Tr.reads_some ht).1
  rw [ba_len] at hp
  obtain ⟨v, rfl, hown⟩ := hyes t hp
  obtain ⟨a2, cap2, rfl⟩ := ow_shape hown
  have hpu := Itm.parse_sound _ _ _ _ hp
  refine ⟨a2, cap2, rfl, ?_, ?_, hb⟩
  · have h1 := Itm.wt_le_enc t hpu.2
    have h2 := congrArg List.length hpu.1
    rw [List.append_nil, ba_len] at h2
    omega
  · have h1 := rep_of_own _ _ _ _ _ (Nat.le_refl _) hown
    have h2 := rep_lift (1001 - s.size) h1
    rwa [show s.size + (1001 - s.size) = 1001 by omega] at h2

/-- On the way, between two elements. -/
structure GetSt (W : World) (X : Nat) (S : List (List UInt8)) (T : Option Tr.Way) (first : Bool) (f : Nat) (wr : World) (y : Tr.Way) (a5 : Option Addr) (c5 : Nat) : Prop where
  row : wr.heap[X]? = some (.cells #[.slice a5 y.digits.length c5, .bool y.branch, .string ⟨y.value.toArray⟩, .bool y.found, .string ⟨y.need.toArray⟩] 117 (0, 0))
  dig : BrdC wr.heap.size wr (.slice a5 y.digits.length c5) y.digits
  inv : T = Tr.rest S first f y
  fuel : first = false → y.need = [] ∨ y.digits.length < f
  need : first = true → y.need ≠ []
  lt : ∀ c ∈ y.digits, c.toNat < 16
  len : y.digits.length ≤ 12
  old : Below W.heap.size W wr
  hX : W.heap.size ≤ X

theorem GetSt.later {W : World} {X : Nat} {S : List (List UInt8)} {T : Option Tr.Way} {first : Bool} {f : Nat} {wr w' : World} {y : Tr.Way} {a5 : Option Addr} {c5 : Nat} (h : GetSt W X S T first f wr y a5 c5) (hb : Below wr.heap.size wr w') : GetSt W X S T first f w' y a5 c5 :=
  ⟨(hb.block X (Array.getElem?_eq_some_iff.1 h.row).1).trans h.row, h.dig.later hb, h.inv, h.fuel, h.need, h.lt, h.len, h.old.trans (hb.mono h.old.size), h.hX⟩

/-- Digits do not lie where the way lies. -/
theorem brdC_set5 {w : World} {X : Nat} {e1 e3 : Bool} {e2 e4 : ByteArray} {a0 : Option Addr} {n0 c0 : Nat} (h : w.heap[X]? = some (.cells #[.slice a0 n0 c0, .bool e1, .string e2, .bool e3, .string e4] 117 (0, 0))) {v : Value} {l : List UInt8} (hd : BrdC w.heap.size w v l) (d0 d1 d2 d3 d4 : Value) : BrdC (set5 w X d0 d1 d2 d3 d4).heap.size (set5 w X d0 d1 d2 d3 d4) v l := by
  rw [set5_size]
  rcases hd with hd | ⟨b, off, cap, hv, hcap, hlt, hc⟩
  · exact .inl hd
  · refine .inr ⟨b, off, cap, hv, hcap, hlt, fun j hj => ?_⟩
    have hne : b ≠ X := by
      rintro rfl
      have h1 := hc j hj
      rw [cell_of_row _ _ (off + j) _ _ _ h] at h1
      match hoj : off + j with
      | 0 => rw [hoj] at h1; simp at h1
      | 1 => rw [hoj] at h1; simp at h1
      | 2 => rw [hoj] at h1; simp at h1
      | 3 => rw [hoj] at h1; simp at h1
      | 4 => rw [hoj] at h1; simp at h1
      | k + 5 => rw [hoj] at h1; simp at h1
    have hb : (set5 w X d0 d1 d2 d3 d4).heap[b]? = w.heap[b]? := by
      unfold set5
      rw [setCell_block _ _ _ _ hne, setCell_block _ _ _ _ hne, setCell_block _ _ _ _ hne, setCell_block _ _ _ _ hne, setCell_block _ _ _ _ hne]
    rw [World.cell?_of_block (a := ⟨b, off + j, none⟩) hb]
    exact hc j hj

/-- A step on the way. -/
theorem GetSt.next {W : World} {X : Nat} {S : List (List UInt8)} {T : Option Tr.Way} {first : Bool} {f : Nat} {wr w' : World} {y y' : Tr.Way} {a5 ay : Option Addr} {c5 cy : Nat} {e : List UInt8} {t : Itm} (h : GetSt W X S T first f wr y a5 c5) (hb : Below wr.heap.size wr w') (hn : y.need ≠ []) (hf : Tr.find S y.need = some e) (hr : Tr.reads e = some t) (h8 : first = false → 8 ≤ e.length)
    (hg : Tr.goes t y.digits y.branch = some y') (hd : BrdC w'.heap.size w' (.slice ay y'.digits.length cy) y'.digits) :
    GetSt W X S T false (if first then 20 else f - 1) (set5 w' X (.slice ay y'.digits.length cy) (.bool y'.branch) (.string ⟨y'.value.toArray⟩) (.bool y'.found) (.string ⟨y'.need.toArray⟩)) y' ay cy ∧ (y'.need ≠ [] → y'.digits.length < y.digits.length) := by
  have h2 := h.later hb
  have hfu : first = false → y.digits.length < f := fun h1 => (h.fuel h1).resolve_left hn
  have hrs := Tr.reads_some hr
  have hless := fun hn' => Tr.goes_less (Tr.whole_enc_eq hrs.1).2 hrs.2 h.lt hg hn'
  have hsub := Tr.goes_sub t y.digits y.branch y' hg
  refine ⟨⟨set5_row h2.row _ _ _ _ _, brdC_set5 h2.row hd _ _ _ _ _, ?_, fun _ => ?_, (fun h => by cases h), fun c hc => h.lt c (hsub.1 c hc), Nat.le_trans hsub.2 h.len, set5_below h2.old h2.hX _ _ _ _ _, h2.hX⟩, hless⟩
  · rw [h.inv, Tr.rest_go hn hf hr h8 hfu, hg]
    rfl
  · by_cases hn' : y'.need = []
    · exact .inl hn'
    · have := hless hn'
      have := h.len
      right
      cases first with
      | true => rw [if_pos rfl]; omega
      | false => rw [if_neg (by decide)]; have := hfu rfl; omega

theorem GetSt.stop {W : World} {X : Nat} {S : List (List UInt8)} {T : Option Tr.Way} {first : Bool} {f : Nat} {wr : World} {y : Tr.Way} {a5 : Option Addr} {c5 : Nat} {e : List UInt8} {t : Itm} (h : GetSt W X S T first f wr y a5 c5) (hn : y.need ≠ []) (hf : Tr.find S y.need = some e) (hr : Tr.reads e = some t) (h8 : first = false → 8 ≤ e.length)
    (hg : Tr.goes t y.digits y.branch = none) : T = none := by
  have hfu : first = false → y.digits.length < f := fun h1 => (h.fuel h1).resolve_left hn
  rw [h.inv, Tr.rest_go hn hf hr h8 hfu, hg]
  rfl

/-- How far the way is at most. -/
def wayM (X : Nat) (w : World) : Nat := match w.cell? ⟨X, 4, none⟩, w.cell? ⟨X, 0, none⟩ with
  | some (.string s), some (.slice _ n _) => if s.size = 0 then 0 else 1 + n
  | _, _ => 0

theorem GetSt.m {W : World} {X : Nat} {S : List (List UInt8)} {T : Option Tr.Way} {first : Bool} {f : Nat} {wr : World} {y : Tr.Way} {a5 : Option Addr} {c5 : Nat} (h : GetSt W X S T first f wr y a5 c5) : wayM X wr = if y.need = [] then 0 else 1 + y.digits.length := by
  obtain ⟨v0, _, _, _, v4, _⟩ := way_facts h.row
  unfold wayM
  rw [v4, v0]
  show (if (⟨y.need.toArray⟩ : ByteArray).size = 0 then 0 else 1 + y.digits.length) = _
  have : (⟨y.need.toArray⟩ : ByteArray).size = y.need.length := by simp [ByteArray.size]
  rw [this]
  cases y.need with
  | nil => rfl
  | cons a b => rfl
end Go.Proofs.YtbmohenjphmlgaaGreat

/- What a keeper (of the program) answers, in all cases. -/
namespace Go.Proofs.YtbmohenjphmlgaaGreat
open Go.RowKit
set_option maxRecDepth 100000

set_option maxHeartbeats 3200000 in
theorem trust_full (k1 : Nat) (a : Option Addr) (cap : Nat) (l : List (Int × ByteArray)) (y : Value) (x : Int) (r : ByteArray) (w : World) (h1 : 0 ≤ x) (h2 : x ≤ 1000000) (h : r.size = 8)
    (hk : w.heap[k1]? = some (.cells #[.slice a l.length cap, y] 94 (0, 0))) (hr : HRd w.heap.size w a l) (hl : l.length ≤ 8) (hs : Rises l) (hx : ∀ q ∈ l, q.1 ≠ x) (hf : 8 ≤ l.length) :
    Calls Tryz.prog 28 #[.pointer (some ⟨k1, 0, none⟩), .int .i64 x, .string r] w fun e w' => e = .returned (.int .i64 9) ∧ Below w.heap.size w w' := by
  have HR := hid (fun s w => isRoot_any s w)
  have HP := hid (place_any k1 a cap l y x w hk hr (by omega) hs)
  have HK := hid hk
  have HX := hid hx
  have h1' : ¬ x < 0 := by omega
  have h2' : ¬ 1000000 < x := by omega
  have h' : (r.size : Int) = 8 := by omega
  have hl' : (8 : Int) ≤ (l.length : Int) := by omega
  have c0 := cell_of_row _ _ 0 _ _ _ hk
  clear hk hs hx hr
  go_enter Tryz.func28, Tryz.ntmps28
  go_wp2_with fail
  refine (HR.out _ _).mono ?_
  rintro e w1 ⟨rfl, hw⟩
  obtain rfl := hw.symm
  rw [decide_eq_true h']
  go_wp2_with fail
  refine HP.out.mono ?_
  rintro e w2 ⟨⟨p, rfl, p1, p2, p3⟩, b2⟩
  rw [decide_eq_false (fun ⟨hp, hpx⟩ => HX.out _ (List.getElem_mem hp) hpx : ¬ ∃ h : p < l.length, l[p].1 = x)]
  have HB2 := hid b2
  have d0 := (b2.cell (p := ⟨k1, 0, none⟩) (Array.getElem?_eq_some_iff.1 HK.out).1).trans c0
  clear p1 p2 p3 b2 c0
  go_wp2_with fail
  go_ret
  exact ⟨rfl, HB2.out⟩

/-- What a keeper does: what it has then, what it has turned. -/
def GDone (out own : Nat → Prop) (w : World) (k0 : Nat) (l : List (Int × ByteArray)) (S : List (List UInt8)) (w' : World) : Prop :=
  ∃ own', GAt out own' w' k0 l S ∧ (∀ k, own' k → own k ∨ w.heap.size ≤ k) ∧ Turns own w w'

theorem gdone_below {out own : Nat → Prop} {w w' : World} {k0 : Nat} {l : List (Int × ByteArray)} {S : List (List UInt8)} (h : GAt out own w k0 l S) (hb : Below w.heap.size w w') : GDone out own w k0 l S w' :=
  ⟨own, gat_later h hb, fun _ hk => .inl hk, Turns.of_below hb⟩

theorem mem_or_none (l : List (Int × ByteArray)) (x : Int) : (∃ i, ∃ h : i < l.length, l[i].1 = x) ∨ ∀ q ∈ l, q.1 ≠ x := by
  by_cases h : ∃ q ∈ l, q.1 = x
  · obtain ⟨q, hq, hx⟩ := h
    obtain ⟨i, hi, rfl⟩ := List.getElem_of_mem hq
    exact .inl ⟨i, hi, hx⟩
  · exact .inr fun q hq hx => h ⟨q, hq, hx⟩

theorem gTrust_any {out own : Nat → Prop} {w : World} {k0 : Nat} {l : List (Int × ByteArray)} {S : List (List UInt8)} (h : GAt out own w k0 l S) (x : Int) (r : ByteArray) :
    Calls Tryz.prog 12 #[.pointer (some ⟨k0, 0, none⟩), .int .i64 x, .string r] w fun e w' => e = .returned (.int .i64 ((trustTo l x r).1 : Nat)) ∧ GDone out own w k0 (trustTo l x r).2 S w' := by
  have hf := gat_facts h
  by_cases hx : x < 0 ∨ 1000000 < x
  · rw [trustTo_height hx]
    obtain ⟨k1, k2, k3, base, a, cap, F, h0⟩ := id h
    refine (outer_trust h0.outer (Q := fun n w' => n = 7 ∧ Below w.heap.size w w') ((trust_height k1 x r w hx).mono ?_)).mono ?_
    · rintro e w' ⟨rfl, rfl⟩
      exact ⟨7, rfl, rfl, Below.refl _ _⟩
    · rintro e w' ⟨n, rfl, rfl, hb⟩
      exact ⟨rfl, gdone_below h hb⟩
  · by_cases h8 : r.size = 8
    · rcases mem_or_none l x with ⟨i, hi, hix⟩ | hne
      · rw [trustTo_old hx h8 hf.1 hi hix]
        obtain ⟨k1, k2, k3, base, a, cap, F, h0⟩ := id h
        refine (outer_trust h0.outer (Q := fun n w' => n = (if l[i].2 = r then 0 else 8) ∧ Below w.heap.size w w') ((trust_old k1 a cap l _ x r l[i].2 w (by omega) (by omega) h8 h0.inner (hown_rd h0.heads) h0.few h0.rises (by rw [← hix]; exact List.getElem_mem hi)).mono ?_)).mono ?_
        · rintro e w' ⟨rfl, hb⟩
          exact ⟨_, rfl, rfl, hb⟩
        · rintro e w' ⟨n, rfl, rfl, hb⟩
          split
          · exact ⟨rfl, gdone_below h hb⟩
          · exact ⟨rfl, gdone_below h hb⟩
      · rw [trustTo_new h8 (h := hx) hne]
        by_cases hfull : 8 ≤ l.length
        · rw [if_pos hfull]
          obtain ⟨k1, k2, k3, base, a, cap, F, h0⟩ := id h
          refine (outer_trust h0.outer (Q := fun n w' => n = 9 ∧ Below w.heap.size w w') ((trust_full k1 a cap l _ x r w (by omega) (by omega) h8 h0.inner (hown_rd h0.heads) h0.few h0.rises hne hfull).mono ?_)).mono ?_
          · rintro e w' ⟨rfl, hb⟩
            exact ⟨9, rfl, rfl, hb⟩
          · rintro e w' ⟨n, rfl, rfl, hb⟩
            exact ⟨rfl, gdone_below h hb⟩
        · rw [if_neg hfull]
          refine (gat_trust h x r (by omega) (by omega) h8 (by omega) hne (insert_any l x r (by omega))).mono ?_
          rintro e w' ⟨rfl, own', p, p1, p2, p3, g1, g2, g3⟩
          refine ⟨rfl, own', ?_, g2, g3⟩
          rw [pl_eq p1 p2 p3] at g1
          exact g1
    · rw [trustTo_root hx h8]
      obtain ⟨k1, k2, k3, base, a, cap, F, h0⟩ := id h
      refine (outer_trust h0.outer (Q := fun n w' => n = 5 ∧ Below w.heap.size w w') ((trust_root k1 x r w (by omega) (by omega) h8).mono ?_)).mono ?_
      · rintro e w' ⟨rfl, rfl⟩
        exact ⟨5, rfl, rfl, Below.refl _ _⟩
      · rintro e w' ⟨n, rfl, rfl, hb⟩
        exact ⟨rfl, gdone_below h hb⟩

theorem gOffer_any {out own : Nat → Prop} {w : World} {k0 : Nat} {l : List (Int × ByteArray)} {S : List (List UInt8)} (h : GAt out own w k0 l S) (x : Int) (key : ByteArray) (a : Option Addr) (cap : Nat) (p : List ByteArray) (hp : SRd w.heap.size w a p) :
    Calls Tryz.prog 18 #[.pointer (some ⟨k0, 0, none⟩), .int .i64 x, .string key, .slice a p.length cap] w fun e w' => e = .returned (.int .i64 ((offerAt l S x key.data.toList (bl p)).1 : Nat)) ∧ GDone out own w k0 l (offerAt l S x key.data.toList (bl p)).2 w' := by
  have hf := gat_facts h
  rcases mem_or_none l x with ⟨i, hi, hix⟩ | hne
  · rw [offerAt_some hf.1 hi hix]
    refine (gat_offer h (x := x) (r := l[i].2) (by rw [← hix]; exact List.getElem_mem hi) key a cap p hp).mono ?_
    rintro e w' ⟨rfl, g1, g2⟩
    exact ⟨rfl, own, g1, fun _ hk => .inl hk, g2⟩
  · rw [offerAt_none hne]
    obtain ⟨k1, k2, k3, base, ha, hcap, F, h0⟩ := id h
    refine (outer_offer h0.outer (Q := fun n w' => n = 10 ∧ Below w.heap.size w w') ((offer_none k1 ha hcap l _ _ x key w h0.inner (hown_rd h0.heads) h0.few h0.rises hne).mono ?_)).mono ?_
    · rintro e w' ⟨rfl, hb⟩
      exact ⟨10, rfl, rfl, hb⟩
    · rintro e w' ⟨n, rfl, rfl, hb⟩
      exact ⟨rfl, gdone_below h hb⟩

theorem gGet_any {out own : Nat → Prop} {w : World} {k0 : Nat} {l : List (Int × ByteArray)} {S : List (List UInt8)} (h : GAt out own w k0 l S) (x : Int) (key : ByteArray) :
    Calls Tryz.prog 20 #[.pointer (some ⟨k0, 0, none⟩), .int .i64 x, .string key] w (RGet (tellAt l S x key.data.toList) w) := by
  have hf := gat_facts h
  rcases mem_or_none l x with ⟨i, hi, hix⟩ | hne
  · rw [tellAt_some hf.1 hi hix]
    refine (gat_get h (x := x) (r := l[i].2) (by rw [← hix]; exact List.getElem_mem hi) key).mono ?_
    rintro e w' ⟨s, b, n, rfl, ⟨N, rfl, ht⟩, hb⟩
    rw [ht]
    have : (⟨s.data.toList.toArray⟩ : ByteArray) = s := by cases s; simp
    exact ⟨by rw [this], hb⟩
  · rw [tellAt_none hne]
    refine (gat_lost h hne key).mono ?_
    rintro e w' ⟨rfl, hb⟩
    exact ⟨rfl, hb⟩

theorem gHeads_any {out own : Nat → Prop} {w : World} {k0 : Nat} {l : List (Int × ByteArray)} {S : List (List UInt8)} (h : GAt out own w k0 l S) :
    Calls Tryz.prog 63 #[.pointer (some ⟨k0, 0, none⟩)] w fun e w' => ∃ v, e = .returned v ∧ HOwn w' w.heap.size v l ∧ Below w.heap.size w w' := by
  obtain ⟨k1, k2, k3, base, ha, hcap, F, h0⟩ := h
  exact heads_any k0 k1 base ha hcap l _ w h0.outer h0.inner h0.heads h0.few

theorem gKept_any {out own : Nat → Prop} {w : World} {k0 : Nat} {l : List (Int × ByteArray)} {S : List (List UInt8)} (h : GAt out own w k0 l S) :
    Calls Tryz.prog 19 #[.pointer (some ⟨k0, 0, none⟩)] w fun e w' => e = .returned (.int .i64 S.length) ∧ w' = w := gat_kept h

/-- The document's own Heads and Kept. -/
theorem refHeads_any (R : Nat → Prop) (r0 : Nat) (l : List (Int × ByteArray)) (K : List ByteArray) (w : World) (h : RAt R w r0 l K) :
    Calls Tryz.prog 64 #[.pointer (some ⟨r0, 0, none⟩)] w fun e w' => (∃ a cap, e = .returned (.slice a l.length cap) ∧ HRd w.heap.size w a l) ∧ w' = w := by
  obtain ⟨ah, ch, ak, ck, h0⟩ := h
  have HR := hid (hown_rd h0.heads)
  have c0 : w.cell? ⟨r0, 0, none⟩ = some (.slice ah l.length ch) := by rw [cell_of_row _ _ 0 _ _ _ h0.cell]; rfl
  clear h0
  go_enter Tryz.func64, Tryz.ntmps64
  go_wp2_with fail
  go_ret
  exact ⟨⟨ah, ch, rfl, HR.out⟩, rfl⟩

theorem refKept_any (R : Nat → Prop) (r0 : Nat) (l : List (Int × ByteArray)) (K : List ByteArray) (w : World) (h : RAt R w r0 l K) :
    Calls Tryz.prog 67 #[.pointer (some ⟨r0, 0, none⟩)] w fun e w' => e = .returned (.int .i64 K.length) ∧ w' = w := by
  obtain ⟨ah, ch, ak, ck, h0⟩ := h
  have c1 : w.cell? ⟨r0, 1, none⟩ = some (.slice ak K.length ck) := by rw [cell_of_row _ _ 1 _ _ _ h0.cell]; rfl
  clear h0
  go_enter Tryz.func67, Tryz.ntmps67
  go_wp2_with fail
  go_ret
  exact ⟨rfl, rfl⟩
end Go.Proofs.YtbmohenjphmlgaaGreat
