/- Part 32 of a proof: what the last text needs. -/
import Derived.Test.YtbmohenjphmlgaaGreatPart28
import Derived.Test.YtbmohenjphmlgaaGreatPart29
import Derived.Test.YtbmohenjphmlgaaGreatPart31
import Derived.Test.YtbmohenjphmlgaaGreatPart9
import Derived.Laws.CopyOwn
import Derived.Test.YtbmohenjphmlgaaGreatPart27
import Derived.Test.YtbmohenjphmlgaaGreatPart11
import Derived.Deep.RegionHeld3
/- A game of the statements: a keeper, the document's own, and the book of lists that came out, side by side. -/
namespace Go.Proofs.YtbmohenjphmlgaaGreat
open Go.RowKit
set_option maxRecDepth 100000

/-- A game; F: blocks that are not its own. -/
structure GmAt (F : Nat → Prop) (w : World) (B k0 r0 : Nat) (lp : List (Int × ByteArray)) (S : List (List UInt8)) (lr : List (Int × ByteArray)) (K : List ByteArray) (Q : Nat) (Lw : List (List (Int × ByteArray))) (own R : Nat → Prop) (c : Nat → Nat) (it wi we : Value) : Prop where
  keep : GAt (fun k => F k ∨ R k ∨ c k ≠ 0) own w k0 lp S
  ref : RAt R w r0 lr K
  book : FlH.BookSt w c B (.pointer (some ⟨k0, 0, none⟩)) (.pointer (some ⟨r0, 0, none⟩)) it wi we Q
  w3 : FlH.WaitRow w c 3 wi Lw
  w4 : FlH.WaitRow w c 4 we Lw
  small : ∀ e ∈ K, e.size ≤ 1000
  fr : ∀ k, F k → ¬ R k
  fc : ∀ k, F k → c k = 0
  rc : ∀ k, R k → c k = 0
  lw : ∀ x ∈ Lw, x.length ≤ 8

/-- What a game may turn. -/
abbrev Mine (F : Nat → Prop) : Nat → Prop := fun k => ¬ F k

theorem GmAt.lt {F : Nat → Prop} {w : World} {B k0 r0 : Nat} {lp : List (Int × ByteArray)} {S : List (List UInt8)} {lr : List (Int × ByteArray)} {K : List ByteArray} {Q : Nat} {Lw : List (List (Int × ByteArray))} {own R : Nat → Prop} {c : Nat → Nat} {it wi we : Value} (h : GmAt F w B k0 r0 lp S lr K Q Lw own R c it wi we) :
    (∀ k, F k ∨ R k ∨ c k ≠ 0 → k < w.heap.size) ∧ (∀ k, F k ∨ R k ∨ c k ≠ 0 → ¬ own k) := ⟨(gat_facts h.keep).2.2.2.2.1, (gat_facts h.keep).2.2.2.2.2.1⟩

/-- The program's keeper has done something. -/
theorem GmAt.kept {F : Nat → Prop} {w w' : World} {B k0 r0 : Nat} {lp lp' : List (Int × ByteArray)} {S S' : List (List UInt8)} {lr : List (Int × ByteArray)} {K : List ByteArray} {Q : Nat} {Lw : List (List (Int × ByteArray))} {own R : Nat → Prop} {c : Nat → Nat} {it wi we : Value} (h : GmAt F w B k0 r0 lp S lr K Q Lw own R c it wi we)
    (hd : GDone (fun k => F k ∨ R k ∨ c k ≠ 0) own w k0 lp' S' w') : (∃ own', GmAt F w' B k0 r0 lp' S' lr K Q Lw own' R c it wi we) ∧ Turns (Mine F) w w' := by
  obtain ⟨hlt, hno⟩ := h.lt
  obtain ⟨own', g1, g2, g3⟩ := hd
  have hblk : ∀ k, F k ∨ R k ∨ c k ≠ 0 → w'.heap[k]? = w.heap[k]? := fun k hk => g3.block k (hlt k hk) (hno k hk)
  refine ⟨⟨own', g1, rat_frame h.ref (fun k hk => hblk k (.inr (.inl hk))), h.book.frame g3.size (fun k _ hk => ⟨hblk k (.inr (.inr (by omega))), rfl⟩), h.w3.frame (by omega) (fun k _ hk => ⟨hblk k (.inr (.inr (by omega))), rfl⟩), h.w4.frame (by omega) (fun k _ hk => ⟨hblk k (.inr (.inr (by omega))), rfl⟩), h.small, h.fr, h.fc, h.rc, h.lw⟩, ?_⟩
  exact g3.wider (fun k _ hk hF => hno k (.inl hF) hk)

/-- The document's own keeper has done something. -/
theorem GmAt.told {F : Nat → Prop} {w w' : World} {B k0 r0 : Nat} {lp : List (Int × ByteArray)} {S : List (List UInt8)} {lr lr' : List (Int × ByteArray)} {K K' : List ByteArray} {Q : Nat} {Lw : List (List (Int × ByteArray))} {own R : Nat → Prop} {c : Nat → Nat} {it wi we : Value} (h : GmAt F w B k0 r0 lp S lr K Q Lw own R c it wi we)
    (hd : RDone R w r0 lr' K' w') (hs : ∀ e ∈ K', e.size ≤ 1000) : (∃ R', GmAt F w' B k0 r0 lp S lr' K' Q Lw own R' c it wi we) ∧ Turns (Mine F) w w' := by
  obtain ⟨hlt, hno⟩ := h.lt
  obtain ⟨R', g1, g2, g3⟩ := hd
  have hblk : ∀ k, k < w.heap.size → ¬ R k → w'.heap[k]? = w.heap[k]? := fun k hk hn => g3.block k hk hn
  have hR' : ∀ k, R' k → c k = 0 := fun k hk => by
    rcases g2 k hk with hk | hk
    · exact h.rc k hk
    · by_cases hc : c k = 0
      · exact hc
      · have := hlt k (.inr (.inr hc)); omega
  have hF' : ∀ k, F k → ¬ R' k := fun k hF hk => by
    rcases g2 k hk with hk | hk
    · exact h.fr k hF hk
    · have := hlt k (.inl hF); omega
  have hcb : ∀ k, k < w.heap.size → c k ≠ 0 → w'.heap[k]? = w.heap[k]? := fun k hk hc => hblk k hk (fun hR => hc (h.rc k hR))
  refine ⟨⟨R', gat_less (gat_frame h.keep (g3.wider (fun k _ hk => .inr (.inl hk)))) (fun k hk => ?_), g1, h.book.frame g3.size (fun k hk hq => ⟨hcb k hk (by omega), rfl⟩), h.w3.frame (by omega) (fun k hk hq => ⟨hcb k hk (by omega), rfl⟩), h.w4.frame (by omega) (fun k hk hq => ⟨hcb k hk (by omega), rfl⟩), hs, hF', h.fc, hR', h.lw⟩, ?_⟩
  · rcases hk with hk | hk | hk
    · exact .inl (.inl hk)
    · rcases g2 k hk with hk' | hk'
      · exact .inl (.inr (.inl hk'))
      · exact .inr ⟨hk', rat_lt g1 k hk⟩
    · exact .inl (.inr (.inr hk))
  · exact g3.wider (fun k _ hk hF => h.fr k hF hk)

/-- Nothing but what is new was written. -/
theorem GmAt.later {F : Nat → Prop} {w w' : World} {B k0 r0 : Nat} {lp : List (Int × ByteArray)} {S : List (List UInt8)} {lr : List (Int × ByteArray)} {K : List ByteArray} {Q : Nat} {Lw : List (List (Int × ByteArray))} {own R : Nat → Prop} {c : Nat → Nat} {it wi we : Value} (h : GmAt F w B k0 r0 lp S lr K Q Lw own R c it wi we)
    (hb : Below w.heap.size w w') : GmAt F w' B k0 r0 lp S lr K Q Lw own R c it wi we :=
  ⟨gat_later h.keep hb, rat_later h.ref hb, h.book.below hb, h.w3.later (by omega) hb (fun _ _ => rfl), h.w4.later (by omega) hb (fun _ _ => rfl), h.small, h.fr, h.fc, h.rc, h.lw⟩

/-- Others have written, into what is not the game's own. -/
theorem GmAt.others {F : Nat → Prop} {w w' : World} {B k0 r0 : Nat} {lp : List (Int × ByteArray)} {S : List (List UInt8)} {lr : List (Int × ByteArray)} {K : List ByteArray} {Q : Nat} {Lw : List (List (Int × ByteArray))} {own R : Nat → Prop} {c : Nat → Nat} {it wi we : Value} (h : GmAt F w B k0 r0 lp S lr K Q Lw own R c it wi we)
    (ht : Turns F w w') : GmAt (fun k => F k ∨ (w.heap.size ≤ k ∧ k < w'.heap.size)) w' B k0 r0 lp S lr K Q Lw own R c it wi we := by
  obtain ⟨hlt, hno⟩ := h.lt
  have hR : ∀ k, R k → w'.heap[k]? = w.heap[k]? := fun k hk => ht.block k (hlt k (.inr (.inl hk))) (fun hF => h.fr k hF hk)
  have hc : ∀ k, c k ≠ 0 → w'.heap[k]? = w.heap[k]? := fun k hk => ht.block k (hlt k (.inr (.inr hk))) (fun hF => hk (h.fc k hF))
  refine ⟨gat_less (gat_frame h.keep (ht.wider (fun k _ hk => .inl hk))) (fun k hk => ?_), rat_frame h.ref hR, h.book.frame ht.size (fun k _ hq => ⟨hc k (by omega), rfl⟩), h.w3.frame (by omega) (fun k _ hq => ⟨hc k (by omega), rfl⟩), h.w4.frame (by omega) (fun k _ hq => ⟨hc k (by omega), rfl⟩), h.small, fun k hk hRk => ?_, fun k hk => ?_, h.rc, h.lw⟩
  · rcases hk with (hk | hk) | hk | hk
    · exact .inl (.inl hk)
    · exact .inr hk
    · exact .inl (.inr (.inl hk))
    · exact .inl (.inr (.inr hk))
  · rcases hk with hk | hk
    · exact h.fr k hk hRk
    · have := hlt k (.inr (.inl hRk)); omega
  · rcases hk with hk | hk
    · exact h.fc k hk
    · by_cases hck : c k = 0
      · exact hck
      · have := hlt k (.inr (.inr hck)); omega

/-- The book has done something. -/
theorem GmAt.booked {F : Nat → Prop} {w w' : World} {B k0 r0 : Nat} {lp : List (Int × ByteArray)} {S : List (List UInt8)} {lr : List (Int × ByteArray)} {K : List ByteArray} {Q Q' : Nat} {Lw Lw' : List (List (Int × ByteArray))} {own R : Nat → Prop} {c c' : Nat → Nat} {it wi we it' wi' we' : Value} (h : GmAt F w B k0 r0 lp S lr K Q Lw own R c it wi we)
    (hb : FlH.BookSt w' c' B (.pointer (some ⟨k0, 0, none⟩)) (.pointer (some ⟨r0, 0, none⟩)) it' wi' we' Q') (h3 : FlH.WaitRow w' c' 3 wi' Lw') (h4 : FlH.WaitRow w' c' 4 we' Lw') (hl : ∀ x ∈ Lw', x.length ≤ 8) (hc : Calm c c' w w') :
    GmAt F w' B k0 r0 lp S lr K Q' Lw' own R (paint c' w'.heap.size) it' wi' we' ∧ Turns (Mine F) w w' := by
  obtain ⟨hlt, hno⟩ := h.lt
  have hz : ∀ k, F k ∨ R k → c k = 0 := fun k hk => hk.elim (h.fc k) (h.rc k)
  have hks : ∀ k, F k ∨ R k → k < w'.heap.size := fun k hk => Nat.lt_of_lt_of_le (hlt k (hk.imp_right .inl)) hc.size
  have hk0 : ∀ k, F k ∨ R k → w'.heap[k]? = w.heap[k]? ∧ c' k = 0 := fun k hk => hc.keep k (hlt k (hk.imp_right .inl)) (hz k hk)
  refine ⟨⟨gat_less (gat_frame h.keep ⟨hc.os, hc.tape, hc.output, hc.size, fun k hk hn => (hc.keep k hk (Classical.byContradiction fun h0 => hn (.inr (.inr h0)))).1⟩) (fun k hk => ?_), rat_frame h.ref (fun k hk => (hk0 k (.inr hk)).1), hb.frame (Nat.le_refl _) (fun k hk _ => ⟨rfl, paint_old c' hk⟩), h3.frame (by omega) (fun k hk _ => ⟨rfl, paint_old c' hk⟩), h4.frame (by omega) (fun k hk _ => ⟨rfl, paint_old c' hk⟩), h.small, h.fr, fun k hk => by rw [paint_old c' (hks k (.inl hk))]; exact (hk0 k (.inl hk)).2, fun k hk => by rw [paint_old c' (hks k (.inr hk))]; exact (hk0 k (.inr hk)).2, hl⟩, ⟨hc.os, hc.tape, hc.output, hc.size, fun k hk hn => ?_⟩⟩
  · rcases hk with hk | hk | hk
    · exact .inl (.inl hk)
    · exact .inl (.inr (.inl hk))
    · by_cases hkw : k < w'.heap.size
      · rw [paint_old c' hkw] at hk
        by_cases hks : k < w.heap.size
        · exact .inl (.inr (.inr fun h0 => hk (hc.keep k hks h0).2))
        · exact .inr ⟨by omega, hkw⟩
      · exact absurd (paint_new c' (by omega)) hk
  · have hF : F k := Classical.byContradiction fun hF => hn hF
    exact (hk0 k (.inl hF)).1

theorem calm_of_keepT {c c' : Nat → Nat} {w w' : World} (h : KeepT c c' w w') : Calm c c' w w' := ⟨h.os, h.tape, h.output, h.size, fun k hk h0 => ⟨h.block k hk (by omega) (by omega) (by omega), by rw [h.color k hk]; exact h0⟩⟩

/-- A list that came out gets its colour. -/
theorem GmAt.painted {F : Nat → Prop} {w w' : World} {B k0 r0 : Nat} {lp : List (Int × ByteArray)} {S : List (List UInt8)} {lr : List (Int × ByteArray)} {K : List ByteArray} {Q : Nat} {Lw : List (List (Int × ByteArray))} {own R : Nat → Prop} {c : Nat → Nat} {it wi we : Value} (h : GmAt F w B k0 r0 lp S lr K Q Lw own R c it wi we)
    (hb : Below w.heap.size w w') {v : Value} {l : List (Int × ByteArray)} (ho : HOwn w' w.heap.size v l) (col : Nat) : GmAt F w' B k0 r0 lp S lr K Q Lw own R (FlH.newcol c v col) it wi we := by
  obtain ⟨hlt, hno⟩ := h.lt
  have hold : ∀ k, k < w.heap.size → FlH.newcol c v col k = c k := fun k hk => by
    unfold FlH.newcol
    rw [if_neg (fun e => by have := (hown_lt ho k e).1; omega)]
  refine ⟨gat_less (gat_frame h.keep (Turns.of_below hb)) (fun k hk => ?_), rat_later h.ref hb, h.book.frame hb.size (fun k hk _ => ⟨hb.block k hk, hold k hk⟩), h.w3.later (by omega) hb hold, h.w4.later (by omega) hb hold, h.small, h.fr, fun k hk => ?_, fun k hk => ?_, h.lw⟩
  · rcases hk with hk | hk | hk
    · exact .inl (.inl hk)
    · exact .inl (.inr (.inl hk))
    · by_cases e : v.ownBlock = some k
      · exact .inr (hown_lt ho k e)
      · unfold FlH.newcol at hk
        rw [if_neg e] at hk
        exact .inl (.inr (.inr hk))
  · rw [hold k (hlt k (.inl hk))]; exact h.fc k hk
  · rw [hold k (hlt k (.inr (.inl hk)))]; exact h.rc k hk
end Go.Proofs.YtbmohenjphmlgaaGreat

/- The walk of looks, of a game (of the statements). -/
namespace Go.Proofs.YtbmohenjphmlgaaGreat
open Go.RowKit
set_option maxRecDepth 100000

theorem GmAt.cells {F : Nat → Prop} {w : World} {B k0 r0 : Nat} {lp : List (Int × ByteArray)} {S : List (List UInt8)} {lr : List (Int × ByteArray)} {K : List ByteArray} {Q : Nat} {Lw : List (List (Int × ByteArray))} {own R : Nat → Prop} {c : Nat → Nat} {it wi we : Value} (h : GmAt F w B k0 r0 lp S lr K Q Lw own R c it wi we) :
    w.cell? ⟨B, 0, none⟩ = some (.pointer (some ⟨k0, 0, none⟩)) ∧ w.cell? ⟨B, 1, none⟩ = some (.pointer (some ⟨r0, 0, none⟩)) :=
  ⟨by rw [cell_of_row _ _ 0 _ _ _ h.book.bk]; rfl, by rw [cell_of_row _ _ 1 _ _ _ h.book.bk]; rfl⟩

/-- What a game has when it has answered rightly. -/
def GmDone (F : Nat → Prop) (w : World) (B k0 r0 : Nat) (l : List (Int × ByteArray)) (S : List (List UInt8)) (K : List ByteArray) (Q : Nat) (Lw : List (List (Int × ByteArray))) (w' : World) : Prop :=
  (∃ own R c it wi we, GmAt F w' B k0 r0 l S l K Q Lw own R c it wi we) ∧ Turns (Mine F) w w'

set_option maxHeartbeats 3200000 in
theorem gameLooks_any {F : Nat → Prop} {w : World} {B k0 r0 : Nat} {l : List (Int × ByteArray)} {S : List (List UInt8)} {K : List ByteArray} {Q : Nat} {Lw : List (List (Int × ByteArray))} {own R : Nat → Prop} {c : Nat → Nat} {it wi we : Value} (h : GmAt F w B k0 r0 l S l K Q Lw own R c it wi we) (hp : S.Perm (bl K)) (hL : Lw.length ≤ 100) :
    Calls Tryz.prog 36 #[.pointer (some ⟨B, 0, none⟩)] w fun e w' => e = .returned (.bool true) ∧ GmDone F w B k0 r0 l S K Q (Lw ++ [l] ++ [l]) w' := by
  have H := hid h
  have HLL := hid hL
  have hl8 := (gat_facts h.keep).2.1
  have HL8 := hid hl8
  have HPL : Hid (S.length = K.length) := by have := hp.length_eq; rw [bl_len] at this; exact this
  obtain ⟨x0, x1⟩ := h.cells
  clear h hp hL
  go_enter Tryz.func36, Tryz.ntmps36
  go_wp2_with fail
  refine (gHeads_any H.out.keep).mono ?_
  rintro e w1 ⟨v1, rfl, ho1, b1⟩
  obtain ⟨a1, c1, rfl⟩ := hown_shape ho1
  have H1 := hid (H.out.painted b1 ho1 (3 + 10 * (Lw.length + 1)))
  have HO1 := hid ho1
  have HB1 := hid b1
  clear ho1 b1 x0 x1
  obtain ⟨x0, x1⟩ := H1.out.cells
  go_wp2_with fail
  refine (refHeads_any R r0 l K _ H1.out.ref).mono ?_
  rintro e w1' ⟨⟨a2, c2, rfl, hr2⟩, hw⟩
  obtain rfl := hw.symm
  have HR2 := hid hr2
  clear hr2 hw
  go_wp2_with fail
  refine (gHeads_any H1.out.keep).mono ?_
  rintro e w2 ⟨v3, rfl, ho3, b3⟩
  obtain ⟨a3, c3, rfl⟩ := hown_shape ho3
  have H2 := hid (H1.out.painted b3 ho3 (3 + 10 * (Lw.length + 2)))
  have HO3 := hid ho3
  have HB3 := hid b3
  clear ho3 b3 x0 x1
  have HS1 := hid (FlH.same_any a1 a2 c1 c2 l w2 (hown_rd (hown_later HO1.out HB3.out)) ((HR2.out.later HB3.out).wider HB3.out.size) (by omega))
  go_wp2_with fail
  refine HS1.out.mono ?_
  rintro e w3 ⟨rfl, b4⟩
  have HB4 := hid b4
  have H3 := hid (H2.out.later b4)
  clear b4
  have HB34 : Hid (Below w1.heap.size w1 w3) := HB3.out.trans (HB4.out.mono HB3.out.size)
  have HS2 := hid (FlH.same_any a3 a2 c3 c2 l w3 (hown_rd (hown_later HO3.out HB4.out)) ((HR2.out.later HB34.out).wider HB34.out.size) (by omega))
  go_wp2_with fail
  refine HS2.out.mono ?_
  rintro e w4 ⟨rfl, b5⟩
  have H4 := hid (H3.out.later b5)
  have HV1 : Hid (HOwn w4 0 (.slice a1 l.length c1) l) := owns_base (hown_later HO1.out (HB34.out.trans (b5.mono HB34.out.size))) (Nat.zero_le _)
  have HV3 : Hid (HOwn w4 0 (.slice a3 l.length c3) l) := owns_base (hown_later HO3.out (HB4.out.trans (b5.mono HB4.out.size))) (Nat.zero_le _)
  have HB45 := hid (HB4.out.trans (b5.mono HB4.out.size))
  clear b5
  have HC3 : Hid (∀ g, (Value.slice a3 l.length c3).ownBlock = some g → FlH.newcol (FlH.newcol c (.slice a1 l.length c1) (3 + 10 * (Lw.length + 1))) (.slice a3 l.length c3) (3 + 10 * (Lw.length + 2)) g = 3 + 10 * (Lw.length + 2)) := fun g hg => by
    unfold FlH.newcol
    rw [if_pos hg]
  have HC1 : Hid (∀ g, (Value.slice a1 l.length c1).ownBlock = some g → FlH.newcol (FlH.newcol c (.slice a1 l.length c1) (3 + 10 * (Lw.length + 1))) (.slice a3 l.length c3) (3 + 10 * (Lw.length + 2)) g = 3 + 10 * (Lw.length + 1)) := fun g hg => by
    have h1 := (hown_lt HO1.out g hg).2
    unfold FlH.newcol
    rw [if_neg (fun e => by have := (hown_lt HO3.out g e).1; omega), if_pos hg]
  have HT4 : Hid (Turns (Mine F) w w4) := by
    refine Turns.of_below (HB1.out.trans ((HB3.out.trans (HB45.out.mono HB3.out.size)).mono HB1.out.size))
  generalize FlH.newcol (FlH.newcol c (.slice a1 l.length c1) (3 + 10 * (Lw.length + 1))) (.slice a3 l.length c3) (3 + 10 * (Lw.length + 2)) = c4 at *
  clear HO1 HO3 H1 H2 H3 HS1 HS2 HR2 H HB1 HB3 HB4 HB34 HB45
  have HK := hid (FlH.keep_any w4 c4 B _ _ it wi we Q Lw a1 c1 l H4.out.book H4.out.w3 H4.out.w4 HV1.out HC1.out (by have := HLL.out; omega) (by omega))
  go_wp2_with fail
  refine HK.out.mono ?_
  rintro e w5 ⟨rfl, c5, wi5, we5, hb5, h35, h45, ht5⟩
  obtain ⟨q1, q2⟩ := H4.out.booked hb5 h35 h45 (fun x hx => by
    rcases List.mem_append.1 hx with hx | hx
    · exact H4.out.lw x hx
    · rw [List.mem_singleton.1 hx]; exact HL8.out) (calm_of_keepT ht5)
  have H5 := hid q1
  have HT5 := hid (HT4.out.trans q2)
  have HC5 : Hid (∀ g, (Value.slice a3 l.length c3).ownBlock = some g → paint c5 w5.heap.size g = 3 + 10 * ((Lw ++ [l]).length + 1)) := fun g hg => by
    have hg4 := (hown_lt HV3.out g hg).2
    rw [paint_old c5 (Nat.lt_of_lt_of_le hg4 ht5.size), ht5.color g hg4, HC3.out g hg, List.length_append, List.length_singleton]
  have HV5 : Hid (HOwn w5 0 (.slice a3 l.length c3) l) := hown_frame HV3.out (fun g hg => ht5.block g (hown_lt HV3.out g hg).2 (by rw [HC3.out g hg]; omega) (by rw [HC3.out g hg]; omega) (by rw [HC3.out g hg]; omega))
  generalize paint c5 w5.heap.size = c5' at *
  clear q1 q2 hb5 h35 h45 ht5 HV1 HV3 HC1 HC3 H4 HK HT4
  have HK := hid (FlH.keep_any w5 c5' B _ _ it wi5 we5 Q (Lw ++ [l]) a3 c3 l H5.out.book H5.out.w3 H5.out.w4 HV5.out HC5.out (by have := HLL.out; rw [List.length_append, List.length_singleton]; omega) (by omega))
  go_wp2_with fail
  refine HK.out.mono ?_
  rintro e w6 ⟨rfl, c6, wi6, we6, hb6, h36, h46, ht6⟩
  obtain ⟨q1, q2⟩ := H5.out.booked hb6 h36 h46 (fun x hx => by
    rcases List.mem_append.1 hx with hx | hx
    · exact H5.out.lw x hx
    · rw [List.mem_singleton.1 hx]; exact HL8.out) (calm_of_keepT ht6)
  have H6 := hid q1
  have HT6 := hid (HT5.out.trans q2)
  generalize paint c6 w6.heap.size = c6' at *
  clear q1 q2 hb6 h36 h46 ht6 HV5 HC5 HK
  obtain ⟨x0, x1⟩ := H6.out.cells
  go_wp2_with fail
  refine (gKept_any H6.out.keep).mono ?_
  rintro e w7 ⟨rfl, hw⟩
  obtain rfl := hw.symm
  clear hw
  go_wp2_with fail
  refine (refKept_any R r0 l K _ H6.out.ref).mono ?_
  rintro e w8 ⟨rfl, hw⟩
  obtain rfl := hw.symm
  clear hw
  rw [HPL.out]
  go_wp2_with fail
  go_ret
  exact ⟨rfl, ⟨own, R, c6', it, wi6, we6, H6.out⟩, HT6.out⟩
end Go.Proofs.YtbmohenjphmlgaaGreat

/- The walk of handedItem (of the statements' own): the same item in lists of its own, each with eight marked places behind it. -/
namespace Go.Proofs.YtbmohenjphmlgaaGreat
open Go.RowKit
set_option maxRecDepth 100000

/-- What holds of the row while it is filled: the first k items are there. -/
def Fill (E : TypeId) (n : Nat) (t : Itm) (g base k : Nat) (wr : World) (xs : List Value) (L H : Nat → Nat) : Prop :=
  wr.heap[g]? = some (.cells xs.toArray E (0, 0)) ∧ xs.length = (t.items.length + 8) * 3 ∧
  (∀ i (h : i < t.items.length), i < k → base ≤ L i ∧ H i ≤ wr.heap.size ∧ g < L i ∧ Hand E wr n (L i) (H i) (tri xs i) t.items[i]) ∧ (∀ i j, i < j → j < k → j < t.items.length → H i ≤ L j) ∧
  (∀ i, t.items.length ≤ i → i < k → tri xs i = bang)

end Go.Proofs.YtbmohenjphmlgaaGreat

/- The walk of untouchedItem (of the statements' own): what was handed in reads as it did; then its owner writes over it, and over nothing else. -/
namespace Go.Proofs.YtbmohenjphmlgaaGreat
open Go.RowKit
set_option maxRecDepth 100000

/-- Of what was there nothing has turned but blocks from lo on and below hi. -/
structure Only (lo hi : Nat) (w w' : World) : Prop where
  os : w'.os = w.os
  tape : w'.tape = w.tape
  output : w'.output = w.output
  size : w.heap.size ≤ w'.heap.size
  block : ∀ k, k < w.heap.size → (k < lo ∨ hi ≤ k) → w'.heap[k]? = w.heap[k]?

theorem Only.refl (lo hi : Nat) (w : World) : Only lo hi w w := ⟨rfl, rfl, rfl, Nat.le_refl _, fun _ _ _ => rfl⟩

/-- What is still to be looked at from the k-th place on. -/
def Unt (E : TypeId) (n : Nat) (t : Itm) (g lo hi k : Nat) (L H : Nat → Nat) (wr : World) (xs : List Value) : Prop :=
  wr.heap[g]? = some (.cells xs.toArray E (0, 0)) ∧ xs.length = (t.items.length + 8) * 3 ∧
  (∀ i (h : i < t.items.length), k ≤ i → lo ≤ L i ∧ H i ≤ hi ∧ (g < L i ∨ H i ≤ g) ∧ Hand E wr n (L i) (H i) (tri xs i) t.items[i]) ∧
  (∀ i, t.items.length ≤ i → k ≤ i → i < t.items.length + 8 → tri xs i = bang)

end Go.Proofs.YtbmohenjphmlgaaGreat

/- The walks of handedTexts and untouchedTexts (of the statements' own): texts in a row with eight marked places behind it. -/
namespace Go.Proofs.YtbmohenjphmlgaaGreat
open Go.RowKit
set_option maxRecDepth 100000

def bangB : ByteArray := ⟨#[33]⟩

/-- Texts with eight marks behind them. -/
def handT (l : List ByteArray) : List Value := tcells (l ++ List.replicate 8 bangB)

theorem handT_len (l : List ByteArray) : (handT l).length = l.length + 8 := by simp [handT, tcells_len]

theorem handT_text (l : List ByteArray) (i : Nat) (h : i < l.length) : (handT l)[i]? = some (.string l[i]) := by
  unfold handT
  rw [tcells_at _ i (by simp; omega), List.getElem_append_left h]

theorem handT_bang (l : List ByteArray) (i : Nat) (h : l.length ≤ i) (h2 : i < l.length + 8) : (handT l)[i]? = some (.string ⟨#[33]⟩) := by
  unfold handT
  rw [tcells_at _ i (by simp; omega), List.getElem_append_right h, List.getElem_replicate]
  rfl

theorem list_getD_cell {w : World} {g : Nat} {xs : List Value} {E : TypeId} (h : w.heap[g]? = some (.cells xs.toArray E (0, 0))) (j : Nat) : w.cell? ⟨g, j, none⟩ = xs[j]? := by
  rw [cell_of_row _ _ j _ _ _ h]
  simp

theorem row_set1 {w : World} {g k : Nat} {xs : List Value} {E : TypeId} (h : w.heap[g]? = some (.cells xs.toArray E (0, 0))) (a : Value) : (w.setCell ⟨g, k, none⟩ a).heap[g]? = some (.cells (xs.set k a).toArray E (0, 0)) := by
  rw [heap_setCell_same w g k xs.toArray E a h]
  simp

theorem take_set_succ {xs : List Value} {i : Nat} (h : i < xs.length) (v : Value) : (xs.set i v).take (i + 1) = xs.take i ++ [v] := by
  rw [List.take_succ_eq_append_getElem (by simpa using h), List.take_set_of_le (Nat.le_refl _)]
  simp

theorem handT_take (l : List ByteArray) (i : Nat) (h : l.length ≤ i) (h2 : i < l.length + 8) : (handT l).take (i + 1) = (handT l).take i ++ [.string ⟨#[33]⟩] := by
  have hlt : i < (handT l).length := by rw [handT_len]; exact h2
  rw [List.take_succ_eq_append_getElem hlt]
  have := handT_bang l i h h2
  rw [List.getElem?_eq_getElem hlt] at this
  rw [Option.some.inj this]

theorem handT_first (l : List ByteArray) : (handT l).take l.length = tcells l := by
  unfold handT tcells
  rw [List.map_append, List.take_left' (by simp)]

theorem srd_src {w : World} {l : List ByteArray} {B : Nat} {p : Addr} (h : SRd B w (some p) l) : ∀ j u, (tcells l)[j]? = some u → w.cell? (p.add j) = some u := by
  intro j u hu
  have hj : j < l.length := by rw [← tcells_len]; exact (List.getElem?_eq_some_iff.1 hu).1
  obtain ⟨b, off, e, _, c0⟩ := h j hj
  cases e
  have hadd : (⟨b, off, none⟩ : Addr).add j = ⟨b, off + j, none⟩ := by unfold Addr.add; split <;> simp_all
  rw [tcells_at l j hj] at hu
  cases hu
  rw [hadd]; exact c0

theorem made_row {w : World} {base g n : Nat} {E : TypeId} {k : Nat} {xs : List Value} (h : w.ownsRow base E k (.slice (some ⟨g, 0, none⟩) n n) n xs) : ∃ cur : List Value, w.heap[g]? = some (.cells cur.toArray E (0, 0)) ∧ cur.length = n * k := by
  rcases h.2 with ⟨h', _⟩ | ⟨g', cap', cur, h', _, hg, _, _, hcs, _⟩
  · simp at h'
  · simp only [Value.slice.injEq, Option.some.injEq, Addr.mk.injEq, and_true, true_and] at h'
    obtain ⟨rfl, rfl⟩ := h'
    exact ⟨cur.toList, by simpa using hg, by simpa using hcs⟩

set_option maxHeartbeats 3200000 in
theorem handedTexts_any (a : Option Addr) (cap : Nat) (l : List ByteArray) (w : World) (hr : SRd w.heap.size w a l) (hn : a = none → l.length = 0) (hl : l.length ≤ 8796093022208) :
    Calls Tryz.prog 39 #[.slice a l.length cap] w fun e w' => e = .returned (.slice (some ⟨w.heap.size, 0, none⟩) l.length (l.length + 8)) ∧ w'.heap[w.heap.size]? = some (.cells (handT l).toArray 9 (0, 0)) ∧ Below w.heap.size w w' := by
  obtain ⟨i0, hi, hz0, hz1, hz2⟩ := info_parts infoText
  have HR := hid hr
  have HNN := hid hn
  have hby : i0.bytes * (l.length + 8) ≤ 281474976710656 := by rw [hz2]; omega
  have hml : l.length + 8 ≤ maxLen := by unfold maxLen; omega
  have HN : Hid ((l.length : Int) + 8 = ((l.length + 8 : Nat) : Int)) := by show _ = _; omega
  have hbase : w.heap.size ≤ w.heap.size := Nat.le_refl _
  have hinf : (Tryz.prog.info? 9).map (·.size) = some 1 := by rw [hi]; simp [hz1]
  have HTL : Hid ((tcells l).length = l.length) := tcells_len l
  have HMN : Hid (l.length = Nat.min l.length (l.length + 8)) := (Nat.min_eq_left (Nat.le_add_right _ _)).symm
  obtain ⟨tc, htc⟩ : ∃ tc, tc = tcells l := ⟨_, rfl⟩
  have HTC := hid htc
  rw [← htc] at HTL
  have HONE : Hid (∀ v ∈ tc, v.oneCell' = true) := by rw [htc]; exact tcells_one l
  clear hr hn htc
  go_enter Tryz.func39, Tryz.ntmps39
  go_wp2_with (first
    | (at_make; refine wpList_make_full _ rfl (.tmp 9) (.tmp 9) 28 rfl _ 9 i0 _ 1 Tryz.underlying28 hi hz0 hz1 .i64 .i64 _ _ (l.length + 8) rfl rfl HN.out HN.out hby hml hbase ?_; intro w1 hrow hgr; have HG1 : Hid (Below w.heap.size w w1) := ⟨hgr.os, hgr.tape, hgr.output, hgr.size, fun k hk => hgr.block k hk (by simp)⟩; obtain ⟨cur, hcur, hcl⟩ := made_row hrow; have HCU := hid hcur; have HCL := hid hcl; clear hrow hgr hcur hcl)
    | ((refine wpList_copy_splice rfl (.tmp 11) (.tmp 12) 28 28 rfl 9 Tryz.underlying28 hinf _ a _ _ l.length cap rfl rfl w.heap.size 0 cur 9 HCU.out tc (HTL.out.trans HMN.out) (by
        intro hp
        rw [HTL.out] at hp
        obtain ⟨b, off, ha, hb, _⟩ := HR.out 0 hp
        refine ⟨rfl, _, ha, fun j v hv => ?_⟩
        have h2 := HR.out.later HG1.out
        rw [ha] at h2
        rw [HTC.out] at hv
        exact srd_src h2 j v hv) (by rw [HTL.out, HCL.out]; omega) HONE.out w.heap.size w HG1.out (Nat.le_refl _) ?_); intro w2 HR2 hb2; have HB2 := hid hb2; clear hb2))

  go_loopw [5] (fun i wr => ∃ (k : Nat) (xs : List Value), i = .int .i64 k ∧ l.length ≤ k ∧ k ≤ l.length + 8 ∧ Hid (wr.heap[w.heap.size]? = some (.cells xs.toArray 9 (0, 0)) ∧ xs.length = l.length + 8 ∧ xs.take k = (handT l).take k ∧ Below w.heap.size w wr)) (fun i _ => l.length + 8 - (intOf i).toNat)
  case atStart =>
    refine ⟨l.length, _, rfl, Nat.le_refl _, by omega, HR2.out, ?_, ?_, HB2.out⟩
    · rw [length_splice _ _ _ (by rw [HTL.out, HCL.out]; omega), HCL.out]; omega
    · unfold splice
      rw [List.take_zero, List.nil_append, List.take_left' HTL.out, handT_first, HTC.out]
  case round =>
    obtain ⟨k, xs, rfl, hk1, hk2, HH⟩ := hrel
    have hgw : w.heap.size < wr.heap.size := (Array.getElem?_eq_some_iff.1 HH.out.1).1
    by_cases hlt : k < l.length + 8
    · have i1 : (0 : Int) ≤ (k : Int) := by omega
      have i2 : (k : Int) < (l.length : Int) + 8 := by omega
      have z0 : wr.cell? ⟨w.heap.size, k, none⟩ = some (xs.getD k default) := row_cell HH.out.1 k (by rw [HH.out.2.1]; exact hlt)
      have f0 : wr.frozen? ⟨w.heap.size, k, none⟩ = false := row_frozen HH.out.1 k
      go_wp2_with fail
      refine ⟨⟨k + 1, _, by go_num, by omega, by omega, row_set1 HH.out.1 _, by rw [List.length_set]; exact HH.out.2.1, ?_, HH.out.2.2.2.setCell (p := ⟨w.heap.size, k, none⟩) (Nat.le_refl _) _⟩, by simp [intOf]; omega⟩
      rw [take_set_succ (by rw [HH.out.2.1]; exact hlt), HH.out.2.2.1, handT_take l k hk1 hlt]
    · have i2 : ¬ (k : Int) < (l.length : Int) + 8 := by omega
      obtain rfl : k = l.length + 8 := by omega
      have HX : Hid (xs = handT l) := by
        have h := HH.out.2.2.1
        rw [List.take_of_length_le (by rw [HH.out.2.1]; omega), List.take_of_length_le (by rw [handT_len]; omega)] at h
        exact h
      go_wp2_with fail
      go_ret
      exact ⟨rfl, by rw [← HX.out]; exact HH.out.1, HH.out.2.2.2⟩
theorem drop_set_succ {xs : List Value} {i : Nat} (v : Value) : (xs.set i v).drop (i + 1) = xs.drop (i + 1) := by
  rw [List.drop_set_of_lt (by omega)]

theorem drop_head {xs ys : List Value} {k : Nat} (h : xs.drop k = ys.drop k) : xs[k]? = ys[k]? ∧ xs.drop (k + 1) = ys.drop (k + 1) := by
  constructor
  · have := congrArg (fun z => z[0]?) h
    simpa using this
  · have := congrArg (fun z => z.drop 1) h
    simpa [List.drop_drop] using this

theorem Only.set1 {lo hi : Nat} {w w1 : World} (h : Only lo hi w w1) {g j : Nat} (hg : lo ≤ g) (hg2 : g < hi) (a : Value) : Only lo hi w (w1.setCell ⟨g, j, none⟩ a) :=
  ⟨h.os, h.tape, h.output, by rw [show (w1.setCell ⟨g, j, none⟩ a).heap.size = w1.heap.size by simp [World.setCell]]; exact h.size, fun k hk hj => by rw [setCell_block _ _ _ _ (by show k ≠ g; omega)]; exact h.block k hk hj⟩

set_option maxHeartbeats 3200000 in
theorem untouchedTexts_any (g : Nat) (a : Option Addr) (cap : Nat) (l : List ByteArray) (w : World) (hg : w.heap[g]? = some (.cells (handT l).toArray 9 (0, 0))) (hr : SRd g w a l) (hl : l.length ≤ 8796093022208) :
    Calls Tryz.prog 40 #[.slice (some ⟨g, 0, none⟩) l.length (l.length + 8), .slice a l.length cap] w fun e w' => e = .returned (.bool true) ∧ Only g (g + 1) w w' := by
  have HR := hid hr
  have HG := hid hg
  have hgw : g < w.heap.size := (Array.getElem?_eq_some_iff.1 hg).1
  clear hr hg
  go_enter Tryz.func40, Tryz.ntmps40
  go_wp2_with fail
  go_loopw [7, 8] (fun ok i wr => ∃ (k : Nat) (xs : List Value), ok = .bool true ∧ i = .int .i64 k ∧ k ≤ l.length + 8 ∧ Hid (wr.heap[g]? = some (.cells xs.toArray 9 (0, 0)) ∧ xs.length = l.length + 8 ∧ xs.drop k = (handT l).drop k ∧ Only g (g + 1) w wr)) (fun _ i _ => l.length + 8 - (intOf i).toNat)
  case atStart => exact ⟨0, _, rfl, rfl, Nat.zero_le _, HG.out, handT_len l, rfl, Only.refl _ _ _⟩
  case round =>
    obtain ⟨k, xs, rfl, rfl, hk, HH⟩ := hrel
    by_cases hlt : k < l.length + 8
    · have i1 : (0 : Int) ≤ (k : Int) := by omega
      have i2 : (k : Int) < (l.length : Int) + 8 := by omega
      have hgr : g < wr.heap.size := (Array.getElem?_eq_some_iff.1 HH.out.1).1
      have f0 : wr.frozen? ⟨g, k, none⟩ = false := row_frozen HH.out.1 k
      have z1 := (list_getD_cell HH.out.1 k).trans (drop_head HH.out.2.2.1).1
      have HE : Hid (∀ v : Value, ∃ xs' : List Value, (wr.setCell ⟨g, k, none⟩ v).heap[g]? = some (.cells xs'.toArray 9 (0, 0)) ∧ xs'.length = l.length + 8 ∧ xs'.drop (k + 1) = (handT l).drop (k + 1) ∧ Only g (g + 1) w (wr.setCell ⟨g, k, none⟩ v)) := fun v =>
        ⟨_, row_set1 HH.out.1 v, by rw [List.length_set]; exact HH.out.2.1, by rw [drop_set_succ]; exact (drop_head HH.out.2.2.1).2, HH.out.2.2.2.set1 (Nat.le_refl _) (by omega) v⟩
      by_cases hkl : k < l.length
      · have i3 : (k : Int) < (l.length : Int) := by omega
        rw [handT_text l k hkl] at z1
        obtain ⟨b, off, rfl, hb, e0⟩ := HR.out k hkl
        have e1 : wr.cell? ⟨b, off + k, none⟩ = some (.string l[k]) := (World.cell?_of_block (w := w) (HH.out.2.2.2.block b (by omega) (.inl hb))).trans e0
        have hbr : b < wr.heap.size := by omega
        clear e0
        go_wp2_with fail
        obtain ⟨xs', q⟩ := HE.out (.string ⟨#[98, 108, 111, 116]⟩)
        exact ⟨⟨k + 1, xs', rfl, by go_num, by omega, q⟩, by simp [intOf]; omega⟩
      · have i3 : ¬ (k : Int) < (l.length : Int) := by omega
        rw [handT_bang l k (by omega) hlt] at z1
        go_wp2_with fail
        obtain ⟨xs', q⟩ := HE.out (.string ⟨#[98, 108, 111, 116]⟩)
        exact ⟨⟨k + 1, xs', rfl, by go_num, by omega, q⟩, by simp [intOf]; omega⟩
    · have i2 : ¬ (k : Int) < (l.length : Int) + 8 := by omega
      go_wp2_with fail
      go_ret
      exact ⟨rfl, HH.out.2.2.2⟩
end Go.Proofs.YtbmohenjphmlgaaGreat

/- The walk of the statement Verifies. -/
namespace Go.Proofs.YtbmohenjphmlgaaGreat
open Go.RowKit
set_option maxRecDepth 100000


end Go.Proofs.YtbmohenjphmlgaaGreat

/- The walk of step, of a game (of the statements): Trust and Get. -/
namespace Go.Proofs.YtbmohenjphmlgaaGreat
open Go.RowKit
set_option maxRecDepth 100000

theorem GmAt.less {F F' : Nat → Prop} {w : World} {B k0 r0 : Nat} {lp : List (Int × ByteArray)} {S : List (List UInt8)} {lr : List (Int × ByteArray)} {K : List ByteArray} {Q : Nat} {Lw : List (List (Int × ByteArray))} {own R : Nat → Prop} {c : Nat → Nat} {it wi we : Value} (h : GmAt F w B k0 r0 lp S lr K Q Lw own R c it wi we) (hs : ∀ k, F' k → F k) : GmAt F' w B k0 r0 lp S lr K Q Lw own R c it wi we :=
  ⟨gat_less h.keep (fun k hk => hk.imp_left (hs k)), h.ref, h.book, h.w3, h.w4, h.small, fun k hk => h.fr k (hs k hk), fun k hk => h.fc k (hs k hk), h.rc, h.lw⟩

/-- What is new behind a call is not the game's own. -/
theorem GmAt.fresh {F : Nat → Prop} {w w' : World} {B k0 r0 : Nat} {lp : List (Int × ByteArray)} {S : List (List UInt8)} {lr : List (Int × ByteArray)} {K : List ByteArray} {Q : Nat} {Lw : List (List (Int × ByteArray))} {own R : Nat → Prop} {c : Nat → Nat} {it wi we : Value} (h : GmAt F w B k0 r0 lp S lr K Q Lw own R c it wi we)
    (hb : Below w.heap.size w w') : GmAt (fun k => F k ∨ (w.heap.size ≤ k ∧ k < w'.heap.size)) w' B k0 r0 lp S lr K Q Lw own R c it wi we := h.others (Turns.of_below hb)

theorem Turns.narrow {F F' : Nat → Prop} {w w1 w' : World} (hb : Below w.heap.size w w1) (ht : Turns (Mine F') w1 w') (hs : ∀ k, k < w.heap.size → F k → F' k) : Turns (Mine F) w w' :=
  ⟨ht.os.trans hb.os, ht.tape.trans hb.tape, ht.output.trans hb.output, Nat.le_trans hb.size ht.size, fun k hk hn => (ht.block k (Nat.lt_of_lt_of_le hk hb.size) (fun h => hn (fun hF => h (hs k hk hF)))).trans (hb.block k hk)⟩

/-- A step's box, once it is laid. -/
theorem box5 (w : World) (a b c d e : Value) (E : TypeId) : (w.alloc (.cells #[a, b, c, d, e] E)).heap[w.heap.size]? = some (.cells #[a, b, c, d, e] E (0, 0)) := heap_alloc_new w _

theorem turns_drew (own : Nat → Prop) (w : World) : Turns own w w.drew := ⟨rfl, rfl, rfl, Nat.le_refl _, fun _ _ _ => rfl⟩

section
variable {F : Nat → Prop} {w : World} {B k0 r0 : Nat} {l : List (Int × ByteArray)} {S : List (List UInt8)} {K : List ByteArray} {Q : Nat} {Lw : List (List (Int × ByteArray))} {own R : Nat → Prop} {c : Nat → Nat} {it wi we : Value}

set_option maxHeartbeats 3200000 in
theorem step_other (kind x : Int) (r : ByteArray) (v : Value) (t : Int) (h1 : kind ≠ 1) (h2 : kind ≠ 2) (h3 : kind ≠ 3) (h4 : kind ≠ 4) (h5 : kind ≠ 5) (h : GmAt F w B k0 r0 l S l K Q Lw own R c it wi we) :
    Calls Tryz.prog 23 #[.pointer (some ⟨B, 0, none⟩), .agg #[.int .i64 kind, .int .i64 x, .string r, v, .int .i64 t]] w fun e w' => e = .returned (.bool true) ∧ GmDone F w B k0 r0 l S K Q Lw w' := by
  have H := hid h
  have i1 : (kind == 1) = false := by simpa using h1
  have i2 : (kind == 2) = false := by simpa using h2
  have i3 : (kind == 3) = false := by simpa using h3
  have i4 : (kind == 4) = false := by simpa using h4
  have i5 : (kind == 5) = false := by simpa using h5
  clear h h1 h2 h3 h4 h5
  go_enter Tryz.func23, Tryz.ntmps23
  go_wp2_with fail
  go_ret
  have hb : Below w.heap.size w (w.alloc (.cells #[.int .i64 kind, .int .i64 x, .string r, v, .int .i64 t] 63)) := (Below.refl _ _).alloc (Nat.le_refl _) _
  exact ⟨rfl, ⟨own, R, c, it, wi, we, H.out.later hb⟩, Turns.of_below hb⟩

set_option maxHeartbeats 3200000 in
theorem step_look (x : Int) (r : ByteArray) (v : Value) (t : Int) (h : GmAt F w B k0 r0 l S l K Q Lw own R c it wi we) (hp : S.Perm (bl K)) (hL : Lw.length ≤ 100) :
    Calls Tryz.prog 23 #[.pointer (some ⟨B, 0, none⟩), .agg #[.int .i64 1, .int .i64 x, .string r, v, .int .i64 t]] w fun e w' => e = .returned (.bool true) ∧ GmDone F w B k0 r0 l S K Q (Lw ++ [l] ++ [l]) w' := by
  have hb : Below w.heap.size w (w.alloc (.cells #[.int .i64 1, .int .i64 x, .string r, v, .int .i64 t] 63)) := (Below.refl _ _).alloc (Nat.le_refl _) _
  have HB := hid hb
  have HL := hid (gameLooks_any (h.later hb) hp hL)
  clear h hp hL hb
  go_enter Tryz.func23, Tryz.ntmps23
  go_wp2_with fail
  refine HL.out.mono ?_
  rintro e w' ⟨rfl, hd⟩
  have HD := hid hd
  clear hd
  go_wp2_with fail
  go_ret
  exact ⟨rfl, HD.out.1, Turns.narrow HB.out HD.out.2 (fun _ _ h => h)⟩

set_option maxHeartbeats 3200000 in
theorem step_trust (x : Int) (r : ByteArray) (v : Value) (t : Int) (h : GmAt F w B k0 r0 l S l K Q Lw own R c it wi we) :
    Calls Tryz.prog 23 #[.pointer (some ⟨B, 0, none⟩), .agg #[.int .i64 2, .int .i64 x, .string r, v, .int .i64 t]] w fun e w' => e = .returned (.bool true) ∧ GmDone F w B k0 r0 (trustTo l x r).2 S K Q Lw w' := by
  have hl8 := gat_facts h.keep
  have HRI := hid hl8.1
  have HFE := hid hl8.2.1
  have hb : Below w.heap.size w (w.alloc (.cells #[.int .i64 2, .int .i64 x, .string r, v, .int .i64 t] 63)) := (Below.refl _ _).alloc (Nat.le_refl _) _
  have H1 := hid (h.fresh hb)
  have HB1 := hid hb
  obtain ⟨x0, x1⟩ := H1.out.cells
  have hX := box5 w (.int .i64 2) (.int .i64 x) (.string r) v (.int .i64 t) 63
  have HX := hid hX
  have HXF : Hid (w.heap.size ≤ w.heap.size ∧ w.heap.size < (w.alloc (.cells #[.int .i64 2, .int .i64 x, .string r, v, .int .i64 t] 63)).heap.size) := ⟨Nat.le_refl _, by simp⟩
  have y1 := cell_of_row _ _ 1 _ _ _ hX
  have y2 := cell_of_row _ _ 2 _ _ _ hX
  have HNU := hid num_any
  have HSM := hid h.small
  clear h hl8 hb hX
  go_enter Tryz.func23, Tryz.ntmps23
  go_wp2_with fail
  generalize hW1 : w.alloc (.cells #[.int .i64 2, .int .i64 x, .string r, v, .int .i64 t] 63) = W1 at *
  have HLS : Hid (∀ k, F k → F k ∨ (w.heap.size ≤ k ∧ k < W1.heap.size)) := fun k hk => .inl hk
  have HXF1 : Hid (F w.heap.size ∨ (w.heap.size ≤ w.heap.size ∧ w.heap.size < W1.heap.size)) := .inr HXF.out
  generalize hF1 : (fun k => F k ∨ (w.heap.size ≤ k ∧ k < W1.heap.size)) = F1 at H1
  have hF1' : ∀ k, (F k ∨ (w.heap.size ≤ k ∧ k < W1.heap.size)) = F1 k := fun k => by rw [← hF1]
  rw [hF1'] at HXF1
  have HLS1 : Hid (∀ k, F k → F1 k) := fun k hk => by rw [← hF1']; exact HLS.out k hk
  clear hF1 hF1' HLS
  have H1D := hid (H1.out.later ((Below.refl _ _).drew))
  have HTR := hid (gTrust_any H1D.out.keep x r)
  go_region_held3 (fun w' => w'.cell? ⟨B, 0, none⟩ = some (.pointer (some ⟨k0, 0, none⟩)) ∧ w'.cell? ⟨w.heap.size, 1, none⟩ = some (.int .i64 x) ∧ w'.cell? ⟨w.heap.size, 2, none⟩ = some (.string r)) ((first | exact ⟨z0, z1, z2⟩ | go_keep))
    ((go_at_call 12; refine HTR.out.mono ?_; rintro e w2 ⟨rfl, hd⟩; obtain ⟨⟨own2, h2⟩, t2⟩ := H1D.out.kept hd; have z0 := h2.cells.1; have zx := t2.block w.heap.size HXF.out.2 (fun hn => hn HXF1.out); have z1 := (World.cell?_of_block (a := ⟨w.heap.size, 1, none⟩) zx).trans y1; have z2 := (World.cell?_of_block (a := ⟨w.heap.size, 2, none⟩) zx).trans y2))
  all_goals
    have H2 := hid h2
    have HT2 := hid ((turns_drew _ _).trans t2)
    have HX2 : Hid (w.heap.size < w2.heap.size) := Nat.lt_of_lt_of_le HXF.out.2 t2.size
    have u0 := h2.cells.2
    clear h2 t2 hd y1 y2 zx z0 x0 x1 HTR H1D H1
    go_wp2_with fail
    have H2D := hid (H2.out.later ((Below.refl _ _).drew))
    have HTR := hid (refTrust_any R r0 l K x r _ H2D.out.ref HRI.out HFE.out)
    go_region_held3 (fun w' => w'.cell? ⟨B, 1, none⟩ = some (.pointer (some ⟨r0, 0, none⟩)) ∧ w'.cell? ⟨w.heap.size, 1, none⟩ = some (.int .i64 x) ∧ w'.cell? ⟨w.heap.size, 2, none⟩ = some (.string r)) ((first | exact ⟨s0, s1, s2⟩ | go_keep))
      ((go_at_call 37; refine HTR.out.mono ?_; rintro e w3 ⟨rfl, hd⟩; obtain ⟨⟨R3, h3⟩, t3⟩ := H2D.out.told hd HSM.out; have s0 := h3.cells.2; have sx := t3.block w.heap.size HX2.out (fun hn => hn HXF1.out); have s1 := (World.cell?_of_block (a := ⟨w.heap.size, 1, none⟩) sx).trans z1; have s2 := (World.cell?_of_block (a := ⟨w.heap.size, 2, none⟩) sx).trans z2))
    all_goals
      have H3 := hid h3
      have HT3 := hid (HT2.out.trans ((turns_drew _ _).trans t3))
      clear h3 t3 hd z1 z2 sx s0 s1 s2 u0 HTR H2D H2
      go_wp2_with fail
      refine (HNU.out _ _).mono ?_
      rintro e w4 ⟨rfl, hw⟩
      obtain rfl := hw.symm
      clear hw
      go_wp2_with fail
      go_ret
      exact ⟨rfl, ⟨own2, R3, c, it, wi, we, H3.out.less HLS1.out⟩, Turns.narrow HB1.out HT3.out (fun k _ hk => HLS1.out k hk)⟩
end
end Go.Proofs.YtbmohenjphmlgaaGreat
