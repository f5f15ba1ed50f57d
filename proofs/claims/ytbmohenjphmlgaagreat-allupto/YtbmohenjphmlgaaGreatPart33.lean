/- Part 33 of a proof: what the last text needs. -/
import Derived.Test.YtbmohenjphmlgaaGreatPart32
import Derived.Test.YtbmohenjphmlgaaGreatRows
import Derived.ProofKit
import Derived.OpenShut
import Derived.ShutString
import Derived.ChangeOld
import Derived.JoinedCond
import Derived.Lib.SmallJoins
import Derived.SliceStrings
import Derived.Test.YtbmohenjphmlgaaGreatPart28
/- The walk of step, of a game (of the statements): Get and Offer. -/
namespace Go.Proofs.YtbmohenjphmlgaaGreat
open Go.RowKit
set_option maxRecDepth 100000

theorem tellAt_perm {l : List (Int × ByteArray)} {S T : List (List UInt8)} (hS : Tr.Lone S) (hp : S.Perm T) (x : Int) (key : List UInt8) : tellAt l T x key = tellAt l S x key := by
  unfold tellAt
  split
  · rfl
  · exact Tr.tell_perm hS hp _ _

theorem offerAt_perm {l : List (Int × ByteArray)} {S T : List (List UInt8)} (hS : Tr.Lone S) (hp : S.Perm T) (x : Int) (key : List UInt8) (p : List (List UInt8)) : (offerAt l T x key p).1 = (offerAt l S x key p).1 ∧ (offerAt l S x key p).2.Perm (offerAt l T x key p).2 := by
  unfold offerAt
  split
  · exact ⟨rfl, hp⟩
  · unfold offerTo
    have ha := Tr.addAll_perm p hS hp
    split
    · exact ⟨rfl, hp⟩
    · rw [ha.length_eq]
      split
      · exact ⟨rfl, hp⟩
      · exact ⟨rfl, ha⟩

theorem rat_r0 {R : Nat → Prop} {w : World} {r0 : Nat} {l : List (Int × ByteArray)} {K : List ByteArray} (h : RAt R w r0 l K) : R r0 := by
  obtain ⟨ah, ch, ak, ck, h⟩ := h
  exact (h.own r0).2 (.inl rfl)

theorem GmAt.sizes {F : Nat → Prop} {w : World} {B k0 r0 : Nat} {lp : List (Int × ByteArray)} {S : List (List UInt8)} {lr : List (Int × ByteArray)} {K : List ByteArray} {Q : Nat} {Lw : List (List (Int × ByteArray))} {own R : Nat → Prop} {c : Nat → Nat} {it wi we : Value} (h : GmAt F w B k0 r0 lp S lr K Q Lw own R c it wi we) (hp : S.Perm (bl K)) :
    Rises lp ∧ lp.length ≤ 8 ∧ (∀ q ∈ lp, q.2.size = 8) ∧ Tr.Lone S ∧ K.length ≤ 200 ∧ (∀ e ∈ K, ∃ t, Tr.reads e.data.toList = some t) := by
  obtain ⟨h1, h2, h3, h4, _, _, h7⟩ := gat_facts h.keep
  have hm := gat_most h.keep
  have hl := hp.length_eq
  rw [bl_len] at hl
  refine ⟨h1, h2, h3, h4, by omega, fun e he => (h7 e.data.toList (hp.mem_iff.2 (List.mem_map.2 ⟨e, he, rfl⟩))).2⟩

section
variable {F : Nat → Prop} {w : World} {B k0 r0 : Nat} {l : List (Int × ByteArray)} {S : List (List UInt8)} {K : List ByteArray} {Q : Nat} {Lw : List (List (Int × ByteArray))} {own R : Nat → Prop} {c : Nat → Nat} {it wi we : Value}

set_option maxHeartbeats 3200000 in
theorem step_get (x : Int) (r : ByteArray) (v : Value) (t : Int) (h : GmAt F w B k0 r0 l S l K Q Lw own R c it wi we) (hp : S.Perm (bl K)) :
    Calls Tryz.prog 23 #[.pointer (some ⟨B, 0, none⟩), .agg #[.int .i64 4, .int .i64 x, .string r, v, .int .i64 t]] w fun e w' => e = .returned (.bool true) ∧ GmDone F w B k0 r0 l S K Q Lw w' := by
  have HSZ := hid (h.sizes hp)
  have HP := hid hp
  have hb : Below w.heap.size w (w.alloc (.cells #[.int .i64 4, .int .i64 x, .string r, v, .int .i64 t] 63)) := (Below.refl _ _).alloc (Nat.le_refl _) _
  have H1 := hid (h.later hb)
  have HB1 := hid hb
  obtain ⟨x0, x1⟩ := H1.out.cells
  have hX := box5 w (.int .i64 4) (.int .i64 x) (.string r) v (.int .i64 t) 63
  have HXL : Hid (w.heap.size < (w.alloc (.cells #[.int .i64 4, .int .i64 x, .string r, v, .int .i64 t] 63)).heap.size) := by rw [Hid]; simp
  have y1 := cell_of_row _ _ 1 _ _ _ hX
  have y2 := cell_of_row _ _ 2 _ _ _ hX
  have HNU := hid num_any
  have HTE := hid (tellAt_perm (l := l) HSZ.out.2.2.2.1 hp x r.data.toList)
  have HSM := hid h.small
  clear h hb hX hp
  go_enter Tryz.func23, Tryz.ntmps23
  go_wp2_with fail
  generalize hW1 : w.alloc (.cells #[.int .i64 4, .int .i64 x, .string r, v, .int .i64 t] 63) = W1 at *
  clear hW1
  have H1D := hid (H1.out.later ((Below.refl _ _).drew))
  have HTR := hid (gGet_any H1D.out.keep x r)
  obtain ⟨o, ho⟩ : ∃ o, o = tellAt l S x r.data.toList := ⟨_, rfl⟩
  rw [← ho] at HTR HTE
  clear ho
  obtain ⟨ov, ob, on⟩ := o
  go_region_held3 (fun w' => w'.cell? ⟨B, 0, none⟩ = some (.pointer (some ⟨k0, 0, none⟩)) ∧ w'.cell? ⟨w.heap.size, 1, none⟩ = some (.int .i64 x) ∧ w'.cell? ⟨w.heap.size, 2, none⟩ = some (.string r)) ((first | exact ⟨z0, z1, z2⟩ | go_keep))
    ((go_at_call 20; refine HTR.out.mono ?_; rintro e w2 ⟨rfl, hd⟩; have h2 := H1D.out.later hd; have z0 := h2.cells.1; have zx := hd.block w.heap.size HXL.out; have z1 := (World.cell?_of_block (a := ⟨w.heap.size, 1, none⟩) zx).trans y1; have z2 := (World.cell?_of_block (a := ⟨w.heap.size, 2, none⟩) zx).trans y2))
  all_goals
    have H2 := hid h2
    have HB2 : Hid (Below w.heap.size w w2) := HB1.out.trans (((Below.refl _ _).drew.trans hd).mono HB1.out.size)
    have HX2 : Hid (w.heap.size < w2.heap.size) := Nat.lt_of_lt_of_le HXL.out hd.size
    have u0 := h2.cells.2
    clear h2 hd y1 y2 zx z0 x0 x1 HTR H1D H1
    go_wp2_with fail
    have H2D := hid (H2.out.later ((Below.refl _ _).drew))
    have HTR := hid (refGet_any R r0 l K x r _ H2D.out.ref HSZ.out.1 HSZ.out.2.1 HSZ.out.2.2.1 HSZ.out.2.2.2.2.1 HSM.out HSZ.out.2.2.2.2.2)
    rw [HTE.out] at HTR
    go_region_held3 (fun w' => w'.cell? ⟨B, 1, none⟩ = some (.pointer (some ⟨r0, 0, none⟩)) ∧ w'.cell? ⟨w.heap.size, 1, none⟩ = some (.int .i64 x) ∧ w'.cell? ⟨w.heap.size, 2, none⟩ = some (.string r)) ((first | exact ⟨s0, s1, s2⟩ | go_keep))
      ((go_at_call 42; refine HTR.out.mono ?_; rintro e w3 ⟨rfl, hd⟩; have h3 := H2D.out.later hd; have s0 := h3.cells.2; have sx := hd.block w.heap.size HX2.out; have s1 := (World.cell?_of_block (a := ⟨w.heap.size, 1, none⟩) sx).trans z1; have s2 := (World.cell?_of_block (a := ⟨w.heap.size, 2, none⟩) sx).trans z2))
    all_goals
      have H3 := hid h3
      have HB3 : Hid (Below w.heap.size w w3) := HB2.out.trans (((Below.refl _ _).drew.trans hd).mono HB2.out.size)
      clear h3 hd z1 z2 sx s0 s1 s2 u0 HTR H2D H2
      go_wp2_with fail
      refine (HNU.out _ _).mono ?_
      rintro e w4 ⟨rfl, hw⟩
      obtain rfl := hw.symm
      clear hw
      go_wp2_with fail
      go_ret
      exact ⟨rfl, ⟨own, R, c, it, wi, we, H3.out⟩, Turns.of_below HB3.out⟩

theorem srd_turns {A : Nat} {w w' : World} {a : Option Addr} {p : List ByteArray} (h : SRd A w a p) (hb : ∀ b off, a = some ⟨b, off, none⟩ → p.length ≠ 0 → w'.heap[b]? = w.heap[b]?) : SRd A w' a p := by
  intro i hi
  obtain ⟨b, off, h1, h2, h3⟩ := h i hi
  exact ⟨b, off, h1, h2, (World.cell?_of_block (a := ⟨b, off + i, none⟩) (hb b off h1 (by omega))).trans h3⟩

theorem srd_hand {w : World} {g : Nat} {p : List ByteArray} (h : w.heap[g]? = some (.cells (handT p).toArray 9 (0, 0))) : SRd w.heap.size w (some ⟨g, 0, none⟩) p := by
  intro i hi
  refine ⟨g, 0, rfl, (Array.getElem?_eq_some_iff.1 h).1, ?_⟩
  rw [Nat.zero_add, list_getD_cell h i, handT_text p i hi]

theorem turns_only {F : Nat → Prop} {g : Nat} {w w' : World} (h : Only g (g + 1) w w') (hg : F g) : Turns F w w' := ⟨h.os, h.tape, h.output, h.size, fun k hk hn => h.block k hk (by
  rcases Nat.lt_trichotomy k g with q | q | q
  · exact .inl q
  · subst q; exact absurd hg hn
  · exact .inr q)⟩

set_option maxHeartbeats 3200000 in
theorem step_offer (x : Int) (r : ByteArray) (a : Option Addr) (cap : Nat) (p : List ByteArray) (t : Int) (h : GmAt F w B k0 r0 l S l K Q Lw own R c it wi we) (hp : S.Perm (bl K)) (hr : SRd w.heap.size w a p) (hn : a = none → p.length = 0) (hpl : p.length ≤ 8796093022208) (hF : ∀ b off, a = some ⟨b, off, none⟩ → p.length ≠ 0 → F b) :
    Calls Tryz.prog 23 #[.pointer (some ⟨B, 0, none⟩), .agg #[.int .i64 3, .int .i64 x, .string r, .slice a p.length cap, .int .i64 t]] w fun e w' => e = .returned (.bool true) ∧ ∃ S' K', S'.Perm (bl K') ∧ GmDone F w B k0 r0 l S' K' Q Lw w' := by
  have HSZ := hid (h.sizes hp)
  have HOP := hid (offerAt_perm (l := l) HSZ.out.2.2.2.1 hp x r.data.toList (bl p))
  have HPF := hid hF
  have HPL := hid hpl
  have hb : Below w.heap.size w (w.alloc (.cells #[.int .i64 3, .int .i64 x, .string r, .slice a p.length cap, .int .i64 t] 63)) := (Below.refl _ _).alloc (Nat.le_refl _) _
  have H1 := hid (h.fresh hb)
  have HB1 := hid hb
  have hX := box5 w (.int .i64 3) (.int .i64 x) (.string r) (.slice a p.length cap) (.int .i64 t) 63
  have HXF : Hid (w.heap.size ≤ w.heap.size ∧ w.heap.size < (w.alloc (.cells #[.int .i64 3, .int .i64 x, .string r, .slice a p.length cap, .int .i64 t] 63)).heap.size) := ⟨Nat.le_refl _, by simp⟩
  have y1 := cell_of_row _ _ 1 _ _ _ hX
  have y2 := cell_of_row _ _ 2 _ _ _ hX
  have y3 := cell_of_row _ _ 3 _ _ _ hX
  have HNU := hid num_any
  have HSM := hid h.small
  have HSR := hid hr
  have HSR1 := hid ((hr.later hb).wider hb.size)
  have HHT := hid (handedTexts_any a cap p _ HSR1.out hn hpl)
  have HFL : Hid (∀ k, F k → k < w.heap.size) := fun k hk => h.lt.1 k (.inl hk)
  clear h hb hX hp hr hn hF hpl
  go_enter Tryz.func23, Tryz.ntmps23
  go_wp2_with fail
  generalize hW1 : w.alloc (.cells #[.int .i64 3, .int .i64 x, .string r, .slice a p.length cap, .int .i64 t] 63) = W1 at *
  clear hW1
  refine HHT.out.mono ?_
  rintro e w2 ⟨rfl, hg2, b2⟩
  have H2 := hid (H1.out.fresh b2)
  have HG2 := hid hg2
  have HB2 := hid (HB1.out.trans (b2.mono HB1.out.size))
  have hgl : W1.heap.size < w2.heap.size := (Array.getElem?_eq_some_iff.1 hg2).1
  have HF2 : Hid (∀ k, F k → (F k ∨ (w.heap.size ≤ k ∧ k < W1.heap.size)) ∨ (W1.heap.size ≤ k ∧ k < w2.heap.size)) := fun k hk => .inl (.inl hk)
  have HFX : Hid ((F w.heap.size ∨ (w.heap.size ≤ w.heap.size ∧ w.heap.size < W1.heap.size)) ∨ (W1.heap.size ≤ w.heap.size ∧ w.heap.size < w2.heap.size)) := .inl (.inr HXF.out)
  have HFG : Hid ((F W1.heap.size ∨ (w.heap.size ≤ W1.heap.size ∧ W1.heap.size < W1.heap.size)) ∨ (W1.heap.size ≤ W1.heap.size ∧ W1.heap.size < w2.heap.size)) := .inr ⟨Nat.le_refl _, hgl⟩
  generalize hFF : (fun k => (F k ∨ (w.heap.size ≤ k ∧ k < W1.heap.size)) ∨ (W1.heap.size ≤ k ∧ k < w2.heap.size)) = F2 at H2
  have hFe : ∀ k, ((F k ∨ (w.heap.size ≤ k ∧ k < W1.heap.size)) ∨ (W1.heap.size ≤ k ∧ k < w2.heap.size)) = F2 k := fun k => by rw [← hFF]
  rw [hFe] at HFX HFG
  have HFS : Hid (∀ k, F k → F2 k) := fun k hk => by rw [← hFe]; exact HF2.out k hk
  clear hFF hFe HF2
  have HXL : Hid (w.heap.size < w2.heap.size) := Nat.lt_of_lt_of_le HXF.out.2 b2.size
  have v1 := (b2.cell (p := ⟨w.heap.size, 1, none⟩) HXF.out.2).trans y1
  have v2 := (b2.cell (p := ⟨w.heap.size, 2, none⟩) HXF.out.2).trans y2
  have v3 := (b2.cell (p := ⟨w.heap.size, 3, none⟩) HXF.out.2).trans y3
  obtain ⟨x0, x1⟩ := H2.out.cells
  have HWG : Hid (w.heap.size < W1.heap.size) := HXF.out.2
  clear hg2 b2 y1 y2 y3 H1 HHT
  generalize W1.heap.size = g at *
  go_wp2_with fail
  have H2D := hid (H2.out.later ((Below.refl _ _).drew))
  have HTR := hid (gOffer_any H2D.out.keep x r (some ⟨g, 0, none⟩) (p.length + 8) p (srd_hand HG2.out))
  go_region_held3 (fun w' => w'.cell? ⟨B, 0, none⟩ = some (.pointer (some ⟨k0, 0, none⟩)) ∧ w'.cell? ⟨w.heap.size, 1, none⟩ = some (.int .i64 x) ∧ w'.cell? ⟨w.heap.size, 2, none⟩ = some (.string r)) ((first | exact ⟨z0, z1, z2⟩ | go_keep))
    ((go_at_call 18; refine HTR.out.mono ?_; rintro e w3 ⟨rfl, hd⟩; obtain ⟨⟨own3, h3⟩, t3⟩ := H2D.out.kept hd; have z0 := h3.cells.1; have zx := t3.block w.heap.size HXL.out (fun hn => hn HFX.out); have z1 := (World.cell?_of_block (a := ⟨w.heap.size, 1, none⟩) zx).trans v1; have z2 := (World.cell?_of_block (a := ⟨w.heap.size, 2, none⟩) zx).trans v2))
  all_goals
    have H3 := hid h3
    have HT3 := hid ((turns_drew _ _).trans t3)
    have z3 := (World.cell?_of_block (a := ⟨w.heap.size, 3, none⟩) zx).trans v3
    have HG3 : Hid (w3.heap[g]? = some (.cells (handT p).toArray 9 (0, 0))) := (t3.block g hgl (fun hn => hn HFG.out)).trans HG2.out
    have HL3 : Hid (w2.heap.size ≤ w3.heap.size) := t3.size
    have HBK3 : Hid (∀ b off, a = some ⟨b, off, none⟩ → p.length ≠ 0 → w3.heap[b]? = w.heap[b]?) := fun b off e e0 => (t3.block b (Nat.lt_of_lt_of_le (HFL.out b (HPF.out b off e e0)) HB2.out.size) (fun hn => hn (HFS.out b (HPF.out b off e e0)))).trans (HB2.out.block b (HFL.out b (HPF.out b off e e0)))
    have HUT := hid (untouchedTexts_any g a cap p w3 HG3.out ((srd_turns HSR.out HBK3.out).wider (Nat.le_of_lt HWG.out)) HPL.out)
    clear h3 t3 hd v1 v2 v3 zx z0 x0 x1 HTR H2D H2
    go_wp2_with fail
    refine HUT.out.mono ?_
    rintro e w4 ⟨rfl, ho4⟩
    have H4 := hid (H3.out.others (turns_only ho4 HFG.out))
    have HL4 : Hid (w3.heap.size ≤ w4.heap.size) := ho4.size
    have HO4 := hid ho4
    have zx := ho4.block w.heap.size (Nat.lt_of_lt_of_le HXL.out HL3.out) (.inl HWG.out)
    have v1 := (World.cell?_of_block (a := ⟨w.heap.size, 1, none⟩) zx).trans z1
    have v2 := (World.cell?_of_block (a := ⟨w.heap.size, 2, none⟩) zx).trans z2
    have v3 := (World.cell?_of_block (a := ⟨w.heap.size, 3, none⟩) zx).trans z3
    have HF4 : Hid (∀ k, F2 k → F2 k ∨ (w3.heap.size ≤ k ∧ k < w4.heap.size)) := fun k hk => .inl hk
    have HBK4 : Hid (∀ b off, a = some ⟨b, off, none⟩ → p.length ≠ 0 → w4.heap[b]? = w.heap[b]?) := fun b off e e0 => (ho4.block b (Nat.lt_of_lt_of_le (Nat.lt_of_lt_of_le (HFL.out b (HPF.out b off e e0)) HB2.out.size) HL3.out) (.inl (Nat.lt_trans (HFL.out b (HPF.out b off e e0)) HWG.out))).trans (HBK3.out b off e e0)
    generalize hFF : (fun k => F2 k ∨ (w3.heap.size ≤ k ∧ k < w4.heap.size)) = F4 at H4
    have hFe : ∀ k, (F2 k ∨ (w3.heap.size ≤ k ∧ k < w4.heap.size)) = F4 k := fun k => by rw [← hFF]
    have HF4' : Hid (∀ k, F2 k → F4 k) := fun k hk => by rw [← hFe]; exact HF4.out k hk
    clear hFF hFe
    obtain ⟨x0, x1⟩ := H4.out.cells
    clear ho4 zx z1 z2 z3 HUT HF4 H3
    go_wp2_with fail
    have H4D := hid (H4.out.later ((Below.refl _ _).drew))
    have HLW : Hid (w.heap.size ≤ w4.heap.size) := Nat.le_trans HB2.out.size (Nat.le_trans HL3.out HL4.out)
    have HTR := hid (refOffer_any R r0 l K x r a cap p _ H4D.out.ref HSZ.out.1 HSZ.out.2.1 HSZ.out.2.2.2.2.1 HSM.out ((srd_turns HSR.out HBK4.out).wider HLW.out) HPL.out (fun b off e e0 hbr => H4.out.fr b (HF4'.out b (HFS.out b (HPF.out b off e e0))) (by rw [hbr]; exact rat_r0 H4.out.ref)))
    go_region_held3 (fun w' => w'.cell? ⟨B, 1, none⟩ = some (.pointer (some ⟨r0, 0, none⟩)) ∧ w'.cell? ⟨w.heap.size, 1, none⟩ = some (.int .i64 x) ∧ w'.cell? ⟨w.heap.size, 2, none⟩ = some (.string r) ∧ w'.cell? ⟨w.heap.size, 3, none⟩ = some (.slice a p.length cap)) ((first | exact ⟨s0, s1, s2, s3⟩ | go_keep))
      ((go_at_call 41; refine HTR.out.mono ?_; rintro e w5 ⟨rfl, K5, hK5, hs5, hd⟩; obtain ⟨⟨R5, h5⟩, t5⟩ := H4D.out.told hd hs5; have s0 := h5.cells.2; have sx := t5.block w.heap.size (Nat.lt_of_lt_of_le (Nat.lt_of_lt_of_le HXL.out HL3.out) HL4.out) (fun hn => hn (HF4'.out _ HFX.out)); have s1 := (World.cell?_of_block (a := ⟨w.heap.size, 1, none⟩) sx).trans v1; have s2 := (World.cell?_of_block (a := ⟨w.heap.size, 2, none⟩) sx).trans v2; have s3 := (World.cell?_of_block (a := ⟨w.heap.size, 3, none⟩) sx).trans v3))
    all_goals
      have H5 := hid h5
      have HK5 := hid hK5
      have HTT : Hid (Turns (Mine F) w w5) := by
        refine ⟨t5.os.trans (HO4.out.os.trans (HT3.out.os.trans HB2.out.os)), t5.tape.trans (HO4.out.tape.trans (HT3.out.tape.trans HB2.out.tape)), t5.output.trans (HO4.out.output.trans (HT3.out.output.trans HB2.out.output)), Nat.le_trans HLW.out t5.size, fun k hk hn => ?_⟩
        have hF : F k := Classical.byContradiction fun hF => hn hF
        have e5 := t5.block k (Nat.lt_of_lt_of_le hk HLW.out) (fun hn => hn (HF4'.out k (HFS.out k hF)))
        have e4 := HO4.out.block k (Nat.lt_of_lt_of_le hk (Nat.le_trans HB2.out.size HL3.out)) (.inl (Nat.lt_trans hk HWG.out))
        have e3 := HT3.out.block k (Nat.lt_of_lt_of_le hk HB2.out.size) (fun hn => hn (HFS.out k hF))
        exact e5.trans (e4.trans (e3.trans (HB2.out.block k hk)))
      rw [HOP.out.1]
      clear h5 t5 hd v1 v2 v3 sx s0 s1 s2 s3 x0 x1 HTR H4D H4 hK5 hs5
      go_wp2_with fail
      refine (HNU.out _ _).mono ?_
      rintro e w6 ⟨rfl, hw⟩
      obtain rfl := hw.symm
      clear hw
      go_wp2_with fail
      go_ret
      exact ⟨rfl, (offerAt l S x r.data.toList (bl p)).2, K5, by rw [HK5.out]; exact HOP.out.2, ⟨own3, R5, c, it, wi, we, H5.out.less (fun k hk => HF4'.out k (HFS.out k hk))⟩, HTT.out⟩
end
end Go.Proofs.YtbmohenjphmlgaaGreat

/- A game of the statements, from step to step: the walks of begin, step with the look behind it, and ends. -/
namespace Go.Proofs.YtbmohenjphmlgaaGreat
open Go.RowKit
set_option maxRecDepth 100000

/-- A game that has been answered rightly so far; m: how many lists wait at most; n: how many have come out at most. -/
def Gm (m : Nat) (F : Nat → Prop) (w : World) (B n : Nat) : Prop :=
  ∃ k0 r0 l S K Q Lw own R c it wi we, GmAt F w B k0 r0 l S l K Q Lw own R c it wi we ∧ S.Perm (bl K) ∧ Lw.length ≤ m ∧ Q + Lw.length ≤ n

theorem gm_others {m : Nat} {F : Nat → Prop} {w w' : World} {B n : Nat} (h : Gm m F w B n) (ht : Turns F w w') : Gm m (fun k => F k ∨ (w.heap.size ≤ k ∧ k < w'.heap.size)) w' B n := by
  obtain ⟨k0, r0, l, S, K, Q, Lw, own, R, c, it, wi, we, h1, h2, h3, h4⟩ := h
  exact ⟨k0, r0, l, S, K, Q, Lw, own, R, c, it, wi, we, h1.others ht, h2, h3, h4⟩

theorem gm_more {m m' : Nat} {F : Nat → Prop} {w : World} {B n n' : Nat} (h : Gm m F w B n) (hm : m ≤ m') (hn : n ≤ n') : Gm m' F w B n' := by
  obtain ⟨k0, r0, l, S, K, Q, Lw, own, R, c, it, wi, we, h1, h2, h3, h4⟩ := h
  exact ⟨k0, r0, l, S, K, Q, Lw, own, R, c, it, wi, we, h1, h2, by omega, by omega⟩

/-- A step of a script. -/
structure Stp where
  kind : Int
  height : Int
  text : ByteArray
  pa : Option Addr
  pc : Nat
  proof : List ByteArray
  t : Int

def Stp.val (s : Stp) : Value := .agg #[.int .i64 s.kind, .int .i64 s.height, .string s.text, .slice s.pa s.proof.length s.pc, .int .i64 s.t]

/-- A step whose proof can be read, in blocks of F. -/
def StpOk (F : Nat → Prop) (w : World) (s : Stp) : Prop := SRd w.heap.size w s.pa s.proof ∧ (s.pa = none → s.proof.length = 0) ∧ s.proof.length ≤ 8796093022208 ∧ ∀ b off, s.pa = some ⟨b, off, none⟩ → s.proof.length ≠ 0 → F b

theorem stpOk_turns {F : Nat → Prop} {w w' : World} {s : Stp} (h : StpOk F w s) (hs : w.heap.size ≤ w'.heap.size) (hb : ∀ k, F k → w'.heap[k]? = w.heap[k]?) : StpOk F w' s :=
  ⟨(srd_turns h.1 (fun b off e e0 => hb b (h.2.2.2 b off e e0))).wider hs, h.2.1, h.2.2.1, h.2.2.2⟩

theorem gm_step {F : Nat → Prop} {w : World} {B n : Nat} (h : Gm 3 F w B n) (s : Stp) (hs : StpOk F w s) (h5 : s.kind ≠ 5) :
    Calls Tryz.prog 23 #[.pointer (some ⟨B, 0, none⟩), s.val] w fun e w' => e = .returned (.bool true) ∧ Gm 5 F w' B (n + 2) ∧ Turns (Mine F) w w' := by
  obtain ⟨k0, r0, l, S, K, Q, Lw, own, R, c, it, wi, we, h1, h2, h3, h4⟩ := h
  obtain ⟨kind, x, r, pa, pc, p, t⟩ := s
  unfold Stp.val
  dsimp only at h5 ⊢
  by_cases e1 : kind = 1
  · subst e1
    refine (step_look x r _ t h1 h2 (by omega)).mono ?_
    rintro e w' ⟨rfl, ⟨own', R', c', it', wi', we', g⟩, gt⟩
    exact ⟨rfl, ⟨k0, r0, l, S, K, Q, _, own', R', c', it', wi', we', g, h2, by simp; omega, by simp; omega⟩, gt⟩
  by_cases e2 : kind = 2
  · subst e2
    refine (step_trust x r _ t h1).mono ?_
    rintro e w' ⟨rfl, ⟨own', R', c', it', wi', we', g⟩, gt⟩
    exact ⟨rfl, ⟨k0, r0, _, S, K, Q, _, own', R', c', it', wi', we', g, h2, by omega, by omega⟩, gt⟩
  by_cases e3 : kind = 3
  · subst e3
    obtain ⟨s1, s2, s3, s4⟩ := hs
    refine (step_offer x r pa pc p t h1 h2 s1 s2 s3 s4).mono ?_
    rintro e w' ⟨rfl, S', K', hp', ⟨own', R', c', it', wi', we', g⟩, gt⟩
    exact ⟨rfl, ⟨k0, r0, _, S', K', Q, _, own', R', c', it', wi', we', g, hp', by omega, by omega⟩, gt⟩
  by_cases e4 : kind = 4
  · subst e4
    refine (step_get x r _ t h1 h2).mono ?_
    rintro e w' ⟨rfl, ⟨own', R', c', it', wi', we', g⟩, gt⟩
    exact ⟨rfl, ⟨k0, r0, _, S, K, Q, _, own', R', c', it', wi', we', g, h2, by omega, by omega⟩, gt⟩
  · refine (step_other kind x r _ t e1 e2 e3 e4 h5 h1).mono ?_
    rintro e w' ⟨rfl, ⟨own', R', c', it', wi', we', g⟩, gt⟩
    exact ⟨rfl, ⟨k0, r0, _, S, K, Q, _, own', R', c', it', wi', we', g, h2, by omega, by omega⟩, gt⟩

theorem gm_look {F : Nat → Prop} {w : World} {B n : Nat} (h : Gm 5 F w B n) (hn : n ≤ 100000000000) :
    Calls Tryz.prog 24 #[.pointer (some ⟨B, 2, none⟩)] w fun e w' => e = .returned (.bool true) ∧ Gm 3 F w' B n ∧ Turns (Mine F) w w' := by
  obtain ⟨k0, r0, l, S, K, Q, Lw, own, R, c, it, wi, we, h1, h2, h3, h4⟩ := h
  refine (FlH.looks_any w c B _ _ it wi we Q Lw h1.book h1.w3 h1.w4 (by omega) (by omega) (fun x hx => by have := h1.lw x hx; omega)).mono ?_
  rintro e w' ⟨rfl, c', it', wi', we', Q', l', g1, g2, g3, g4, g5⟩
  obtain ⟨q1, q2⟩ := h1.booked g1 g2 g3 (fun x hx => by
    rcases g5 with ⟨_, rfl, _⟩ | ⟨_, rfl⟩
    · exact h1.lw x hx
    · simp at hx) g4
  refine ⟨rfl, ⟨k0, r0, l, S, K, Q', l', own, R, _, it', wi', we', q1, h2, ?_, ?_⟩, q2⟩
  · rcases g5 with ⟨_, rfl, h⟩ | ⟨_, rfl⟩
    · exact h
    · simp
  · rcases g5 with ⟨rfl, rfl, h⟩ | ⟨rfl, rfl⟩
    · exact h4
    · simpa using h4

set_option maxHeartbeats 1600000 in
theorem gm_ends {F : Nat → Prop} {w : World} {B n : Nat} (h : Gm 3 F w B n) (hn : n ≤ 99999999990) :
    Calls Tryz.prog 25 #[.pointer (some ⟨B, 0, none⟩)] w fun e w' => e = .returned (.bool true) ∧ Gm 3 F w' B (n + 2) ∧ Turns (Mine F) w w' := by
  obtain ⟨k0, r0, l, S, K, Q, Lw, own, R, c, it, wi, we, h1, h2, h3, h4⟩ := h
  have HL := hid (gameLooks_any h1 h2 (by omega))
  have HP := hid h2
  have H34 := hid (And.intro h3 h4)
  clear h1 h2 h3 h4
  go_enter Tryz.func25, Tryz.ntmps25
  go_wp2_with fail
  refine HL.out.mono ?_
  rintro e w1 ⟨rfl, ⟨own', R', c', it', wi', we', g⟩, gt⟩
  have HS := hid (FlH.settles_any w1 c' B _ _ it' wi' we' Q _ g.book g.w3 g.w4 (by have := H34.out; simp; omega) (by have := H34.out; simp; omega) (fun x hx => by have := g.lw x hx; omega))
  have HG := hid g
  have HT := hid gt
  clear g gt HL
  go_wp2_with fail
  refine HS.out.mono ?_
  rintro e w2 ⟨rfl, c2, it2, hb2, hc2⟩
  obtain ⟨q1, q2⟩ := HG.out.booked hb2 (FlH.waitRow_nil _ _ _) (FlH.waitRow_nil _ _ _) (by simp) hc2
  have HQ1 := hid q1
  have HQ2 := hid q2
  clear q1 q2 hb2 hc2 HS
  go_wp2_with fail
  go_ret
  refine ⟨rfl, ⟨k0, r0, l, S, K, _, [], own', R', _, it2, _, _, HQ1.out, HP.out, by simp, ?_⟩, HT.out.trans HQ2.out⟩
  have := H34.out
  simp
  omega

theorem nil_game (w : World) (k0 : Nat) : (binOp .eql 23 (.pointer (some ⟨k0, 0, none⟩)) (.pointer none)).run Tryz.prog w = .ok (.bool false) w := by rfl

set_option maxHeartbeats 1600000 in
theorem begin_any (w : World) : Calls Tryz.prog 6 #[] w fun e w' => ∃ B, e = .returned (.pointer (some ⟨B, 0, none⟩)) ∧ Gm 3 (fun k => k < w.heap.size) w' B 0 ∧ Below w.heap.size w w' := by
  have HO := hid (gat_open w)
  go_enter Tryz.func6, Tryz.ntmps6
  go_wp2_with fail
  refine HO.out.mono ?_
  rintro e w1 ⟨k0, own, rfl, hk, how, hb⟩
  have HK := hid hk
  have HW := hid how
  have HB := hid hb
  clear hk how hb HO
  go_wp2_with fail
  go_ret
  have hb2 : Below w1.heap.size w1 ((w1.alloc (.cells #[.slice none 0 0, .slice none 0 0] 53)).alloc (.cells #[.pointer (some ⟨k0, 0, none⟩), .pointer (some ⟨w1.heap.size, 0, none⟩), .slice none 0 0, .slice none 0 0, .slice none 0 0, .slice none 0 0, .slice none 0 0, .slice none 0 0, .slice none 0 0, .slice none 0 0, .slice none 0 0] 61)) := ((Below.refl _ _).alloc (Nat.le_refl _) _).alloc (by simp) _
  have e1 : ((w1.alloc (.cells #[.slice none 0 0, .slice none 0 0] 53)).alloc (.cells #[.pointer (some ⟨k0, 0, none⟩), .pointer (some ⟨w1.heap.size, 0, none⟩), .slice none 0 0, .slice none 0 0, .slice none 0 0, .slice none 0 0, .slice none 0 0, .slice none 0 0, .slice none 0 0, .slice none 0 0, .slice none 0 0] 61)).heap[w1.heap.size]? = some (.cells #[.slice none 0 0, .slice none 0 0] 53 (0, 0)) := by
    rw [Below.heap_alloc _ _ _ (by simp)]
    exact heap_alloc_new _ _
  have e2 : ((w1.alloc (.cells #[.slice none 0 0, .slice none 0 0] 53)).alloc (.cells #[.pointer (some ⟨k0, 0, none⟩), .pointer (some ⟨w1.heap.size, 0, none⟩), .slice none 0 0, .slice none 0 0, .slice none 0 0, .slice none 0 0, .slice none 0 0, .slice none 0 0, .slice none 0 0, .slice none 0 0, .slice none 0 0] 61)).heap[w1.heap.size + 1]? = some (.cells #[.pointer (some ⟨k0, 0, none⟩), .pointer (some ⟨w1.heap.size, 0, none⟩), .slice none 0 0, .slice none 0 0, .slice none 0 0, .slice none 0 0, .slice none 0 0, .slice none 0 0, .slice none 0 0, .slice none 0 0, .slice none 0 0] 61 (0, 0)) := by
    have := heap_alloc_new (w1.alloc (.cells #[.slice none 0 0, .slice none 0 0] 53)) (.cells #[.pointer (some ⟨k0, 0, none⟩), .pointer (some ⟨w1.heap.size, 0, none⟩), .slice none 0 0, .slice none 0 0, .slice none 0 0, .slice none 0 0, .slice none 0 0, .slice none 0 0, .slice none 0 0, .slice none 0 0, .slice none 0 0] 61)
    simpa using this
  generalize hZ : (w1.alloc (.cells #[.slice none 0 0, .slice none 0 0] 53)).alloc (.cells #[.pointer (some ⟨k0, 0, none⟩), .pointer (some ⟨w1.heap.size, 0, none⟩), .slice none 0 0, .slice none 0 0, .slice none 0 0, .slice none 0 0, .slice none 0 0, .slice none 0 0, .slice none 0 0, .slice none 0 0, .slice none 0 0] 61) = Z at *
  have hB1 := (Array.getElem?_eq_some_iff.1 e2).1
  have hZs := HB.out.size
  refine ⟨w1.heap.size + 1, by first | rfl | simp, ⟨k0, w1.heap.size, [], [], [], 0, [], own, fun k => k = w1.heap.size ∨ (Value.slice none 0 0).ownBlock = some k ∨ (Value.slice none 0 0).ownBlock = some k, fun k => if k = w1.heap.size + 1 then 1 else 0, .slice none 0 0, .slice none 0 0, .slice none 0 0, ⟨gat_less (gat_frame HK.out (Turns.of_below hb2)) (fun k hk => ?_), ⟨none, 0, none, 0, e1, hown_nil _ _, town_nil _ _, fun k => Iff.rfl, by simp [Value.ownBlock], by simp [Value.ownBlock]⟩, ⟨e2, if_pos rfl, by simp [Value.ownBlock], [], World.ownsRow_nil _ _ _ _, rfl, by simp⟩, FlH.waitRow_nil _ _ _, FlH.waitRow_nil _ _ _, by simp, fun k hk hk2 => ?_, fun k hk => ?_, fun k hk => ?_, by simp⟩, List.Perm.nil, by simp, by simp⟩, HB.out.trans (hb2.mono HB.out.size)⟩
  · rcases hk with hk | (hk | hk | hk) | hk
    · exact .inl hk
    · exact .inr ⟨by omega, by omega⟩
    · cases hk
    · cases hk
    · by_cases e : k = w1.heap.size + 1
      · exact .inr ⟨by omega, by omega⟩
      · rw [if_neg e] at hk; exact absurd rfl hk
  · rcases hk2 with hk2 | hk2 | hk2
    · omega
    · cases hk2
    · cases hk2
  · rw [if_neg (by omega)]
  · rcases hk with hk | hk | hk
    · rw [if_neg (by omega)]
    · cases hk
    · cases hk
end Go.Proofs.YtbmohenjphmlgaaGreat

/- The walk of plays with one keeper, and of Keeps (of the statements). -/
namespace Go.Proofs.YtbmohenjphmlgaaGreat
open Go.RowKit
set_option maxRecDepth 100000

/-- A script that can be read, in blocks below C. -/
def StRd (C : Nat) (w : World) (a : Option Addr) (l : List Stp) : Prop :=
  ∀ i (h : i < l.length), ∃ b off, a = some ⟨b, off, none⟩ ∧ b < C ∧ w.cell? ⟨b, off + i * 5, none⟩ = some (.int .i64 l[i].kind) ∧ w.cell? ⟨b, off + i * 5 + 1, none⟩ = some (.int .i64 l[i].height) ∧ w.cell? ⟨b, off + i * 5 + 2, none⟩ = some (.string l[i].text) ∧ w.cell? ⟨b, off + i * 5 + 3, none⟩ = some (.slice l[i].pa l[i].proof.length l[i].pc) ∧ w.cell? ⟨b, off + i * 5 + 4, none⟩ = some (.int .i64 l[i].t) ∧
    SRd C w l[i].pa l[i].proof ∧ (l[i].pa = none → l[i].proof.length = 0) ∧ l[i].proof.length ≤ 8796093022208

theorem stRd_ok {W wr : World} {a : Option Addr} {l : List Stp} (h : StRd W.heap.size W a l) (hb : Below W.heap.size W wr) {i : Nat} (hi : i < l.length) : StpOk (fun k => k < W.heap.size) wr l[i] := by
  obtain ⟨b, off, _, _, _, _, _, _, _, h1, h2, h3⟩ := h i hi
  refine ⟨(h1.later hb).wider hb.size, h2, h3, fun b off e e0 => ?_⟩
  obtain ⟨b', off', e', hlt, _⟩ := h1 0 (by omega)
  rw [e] at e'
  cases e'
  exact hlt

theorem turns_old {W w w' : World} {F : Nat → Prop} (h : Below W.heap.size W w) (ht : Turns (Mine F) w w') (hF : ∀ k, k < W.heap.size → F k) : Below W.heap.size W w' :=
  ⟨ht.os.trans h.os, ht.tape.trans h.tape, ht.output.trans h.output, Nat.le_trans h.size ht.size, fun k hk => (ht.block k (Nat.lt_of_lt_of_le hk h.size) (fun hn => hn (hF k hk))).trans (h.block k hk)⟩

end Go.Proofs.YtbmohenjphmlgaaGreat

/- A script that was handed in, opened. -/
namespace Go.Proofs.YtbmohenjphmlgaaGreat
open Go.RowKit
open Go.ChangeShapes Go.WideShapes Go.ChangeAt Go.Joins
set_option maxRecDepth 100000

theorem cellsStep : Tryz.prog.cellsOf 63 = 5 := by kernel_rfl
theorem cellsInt : Tryz.prog.cellsOf 3 = 1 := by kernel_rfl
theorem cellsTextS : Tryz.prog.cellsOf 9 = 1 := by kernel_rfl
theorem cellsTexts : Tryz.prog.cellsOf 28 = 1 := by kernel_rfl

theorem spot_no {W : World} {a : Addr} {c : Value} (h : W.cell? a = some c) : a.spot = none := by
  unfold World.cell? at h
  cases hs : a.spot with
  | none => rfl
  | some n =>
    rw [hs] at h
    split at h <;> simp at h

theorem add_no (b off k : Nat) : (⟨b, off, none⟩ : Addr).add k = ⟨b, off + k, none⟩ := by unfold Addr.add; split <;> simp_all

theorem bulk_some {Hd : Type} (d : DataW Hd) : 1 ≤ Rows.uptoBulk d := by
  cases d with
  | lit x => cases x <;> simp [Rows.uptoBulk]
  | _ => simp [Rows.uptoBulk]

theorem bulk_len {Hd : Type} : ∀ l : List (DataW Hd), l.length ≤ Rows.uptoBulkAll l := by
  intro l
  induction l with
  | nil => simp
  | cons d l ih =>
    have := bulk_some d
    simp only [Rows.uptoBulkAll, List.length_cons]
    omega

theorem bulk_mem {Hd : Type} {d : DataW Hd} : ∀ {l : List (DataW Hd)}, d ∈ l → Rows.uptoBulk d ≤ Rows.uptoBulkAll l := by
  intro l
  induction l with
  | nil => intro h; simp at h
  | cons e l ih =>
    intro h
    simp only [Rows.uptoBulkAll]
    rcases List.mem_cons.1 h with rfl | h
    · omega
    · have := ih h; omega

theorem texts_of_trod {Hd : Type} {enc : TypeId × Value → Hd} {W : World} {sp : Nat → Bool} {fuel : Nat} {cs : List Value} {x : DataW Hd × List MemPlace} (h : DataW.trod enc Tryz.prog W 0 sp true fuel 28 cs = some x) :
    ∃ a cap ss, cs = [.slice a ss.length cap] ∧ SRd W.heap.size W a ss ∧ (a = none → ss.length = 0) ∧ ss.length ≤ Rows.uptoBulk x.1 := by
  rcases open_strings Tryz.underlying28 Tryz.underlying9 cellsTextS h with ⟨hcs, hx⟩ | ⟨a, len, cap, ss, hcs, _, hl, hm, hz, hx, hcell, hsz⟩
  · exact ⟨none, 0, [], hcs, fun i h => (by simp at h), fun _ => rfl, Nat.zero_le _⟩
  · have hlen : len ≤ ss.length := by rw [hz]; split <;> omega
    have hlt : (ss.take len).length = len := by simp; omega
    refine ⟨some a, cap, ss.take len, by rw [hlt]; exact hcs, ?_, (fun h => by cases h), ?_⟩
    · intro i hi
      have hi' : i < len := by omega
      have hc := hcell i (by omega)
      have hsp := World.cell?_spot (hcell 0 (by omega))
      obtain ⟨ab, ao, asp⟩ := a
      simp [Addr.add] at hsp
      subst hsp
      rw [Go.WideShapes.add_plain] at hc
      refine ⟨ab, ao, rfl, World.block_lt_of_cell? W _ hc, ?_⟩
      rw [hc, List.getElem_take]
      simp [List.getD_eq_getElem?_getD, List.getElem?_eq_getElem (show i < ss.length by omega)]
    · rw [hx]
      simp only [Rows.uptoBulk]
      have := bulk_len (strs (H := Hd) (ss.take len))
      have hs : (strs (H := Hd) (ss.take len)).length = (ss.take len).length := by simp [strs]
      omega

theorem step_of_trod {Hd : Type} {enc : TypeId × Value → Hd} {W : World} {sp : Nat → Bool} {fuel : Nat} {cs : List Value} {x : DataW Hd × List MemPlace} (h : DataW.trod enc Tryz.prog W 0 sp true fuel 63 cs = some x) :
    ∃ s : Stp, cs = [.int .i64 s.kind, .int .i64 s.height, .string s.text, .slice s.pa s.proof.length s.pc, .int .i64 s.t] ∧ SRd W.heap.size W s.pa s.proof ∧ (s.pa = none → s.proof.length = 0) ∧ s.proof.length ≤ Rows.uptoBulk x.1 := by
  obtain ⟨xs, n, rfl, rfl, hl, hlen, hf⟩ := DataW.trod_struct Tryz.underlying63 h
  rw [cellsStep] at hl
  match cs, hl, xs, hlen with
  | [c0, c1, c2, c3, c4], _, [y0, y1, y2, y3, y4], _ =>
    have h0 := hf 0 _ rfl
    have h1 := hf 1 _ rfl
    have h2 := hf 2 _ rfl
    have h3 := hf 3 _ rfl
    have h4 := hf 4 _ rfl
    simp [cellsInt] at h0 h1 h4
    simp [cellsTextS] at h2
    simp [cellsTexts] at h3
    obtain ⟨kind, e0, _⟩ := DataW.trod_int Tryz.underlying3 h0
    obtain ⟨height, e1, _⟩ := DataW.trod_int Tryz.underlying3 h1
    obtain ⟨t, e4, _⟩ := DataW.trod_int Tryz.underlying3 h4
    obtain ⟨s, e2, _⟩ := DataW.trod_string Tryz.underlying9 h2
    obtain ⟨a, cap, ss, e3, g1, g2, g3⟩ := texts_of_trod h3
    simp at e0 e1 e2 e3 e4
    subst e0 e1 e2 e3 e4
    refine ⟨⟨kind, height, s, a, cap, ss, t⟩, rfl, g1, g2, ?_⟩
    simp only [Rows.uptoBulk]
    have := bulk_mem (d := y3.1) (l := [y0, y1, y2, y3, y4].map (fun x => x.fst)) (by simp)
    show ss.length ≤ _
    omega

theorem choose_steps {p : Nat → Stp → Prop} : ∀ n : Nat, (∀ i, i < n → ∃ t, p i t) → ∃ l : List Stp, l.length = n ∧ ∀ i (h : i < l.length), p i l[i] := by
  intro n
  induction n with
  | zero => intro _; exact ⟨[], rfl, fun i h => by simp at h⟩
  | succ n ih =>
    intro h
    obtain ⟨l, hl, hp⟩ := ih (fun i hi => h i (by omega))
    obtain ⟨t, ht⟩ := h n (by omega)
    refine ⟨l ++ [t], by simp [hl], fun i hi => ?_⟩
    by_cases he : i < l.length
    · rw [List.getElem_append_left he]; exact hp i he
    · have he2 : i = n := by simp at hi; omega
      subst he2
      rw [List.getElem_append_right (by omega)]
      simpa [hl] using ht

theorem open_steps {Hd : Type} {enc : TypeId × Value → Hd} {W : World} {r : Reach} {b0 : Nat} {sp : Nat → Bool} {v : Value} {d : DataW Hd} {ps : List MemPlace} (hval : Value.okWide Tryz.prog W r b0 22 v)
    (hd : DataW.Trod enc Tryz.prog W 0 sp true 22 v d ps) (hb : Rows.uptoBulk d ≤ 1048576) : ∃ a cap l, v = .slice a l.length cap ∧ StRd W.heap.size W a l ∧ l.length ≤ 1048576 := by
  obtain ⟨a0, len, cap, rfl⟩ := okWide_slice Tryz.underlying22 hval
  obtain ⟨fuel, hf⟩ := hd
  rcases DataW.trod_slice Tryz.underlying22 hf with ⟨hcs, _⟩ | ⟨a, len', cap', elems, rest, m, rfl, hcs, hx, _, hlc, hcm, hel, hat, _, _⟩
  · simp [Value.cells] at hcs
    obtain ⟨rfl, rfl, rfl⟩ := hcs
    exact ⟨none, 0, [], rfl, fun i h => (by simp at h), by simp⟩
  · simp [Value.cells] at hcs
    obtain ⟨rfl, rfl, rfl⟩ := hcs
    have hdd : d = _ := congrArg Prod.fst hx
    have hbu : len ≤ 1048576 ∧ ∀ y ∈ elems, Rows.uptoBulk y.1 ≤ 1048576 := by
      rw [hdd] at hb
      simp only [Rows.uptoBulk] at hb
      refine ⟨?_, fun y hy => ?_⟩
      · have := bulk_len (elems.map fun x => x.fst)
        rw [List.length_map] at this
        omega
      · have := bulk_mem (d := y.1) (l := elems.map fun x => x.fst) (List.mem_map.2 ⟨y, hy, rfl⟩)
        omega
    have h0sp : 0 < len → a.spot = none := by
      intro hpos
      have hq := hat 0 hpos
      rw [List.getElem?_eq_getElem (by omega)] at hq
      rw [cellsStep] at hq
      obtain ⟨cs0, hc0, _⟩ := Option.bind_eq_some_iff.1 hq
      obtain ⟨_, hl0, hc⟩ := World.cells?_some hc0
      have := hc 0 (by omega)
      rw [List.getElem?_eq_getElem (by omega)] at this
      have hadd : (a.add (0 * 5)).add 0 = a := by simp [Addr.add]
      rw [hadd] at this
      exact spot_no this
    have hex : ∀ i, i < len → ∃ s : Stp, ∃ b off, some a = some ⟨b, off, none⟩ ∧ b < W.heap.size ∧ W.cell? ⟨b, off + i * 5, none⟩ = some (.int .i64 s.kind) ∧ W.cell? ⟨b, off + i * 5 + 1, none⟩ = some (.int .i64 s.height) ∧ W.cell? ⟨b, off + i * 5 + 2, none⟩ = some (.string s.text) ∧ W.cell? ⟨b, off + i * 5 + 3, none⟩ = some (.slice s.pa s.proof.length s.pc) ∧ W.cell? ⟨b, off + i * 5 + 4, none⟩ = some (.int .i64 s.t) ∧
        SRd W.heap.size W s.pa s.proof ∧ (s.pa = none → s.proof.length = 0) ∧ s.proof.length ≤ 8796093022208 := by
      intro i hi
      have hsp := h0sp (by omega)
      obtain ⟨ab, ao, asp⟩ := a
      simp at hsp
      subst hsp
      have hq := hat i hi
      rw [List.getElem?_eq_getElem (by omega), cellsStep] at hq
      obtain ⟨csi, hci, hti⟩ := Option.bind_eq_some_iff.1 hq
      obtain ⟨s, rfl, q1, q2, q3⟩ := step_of_trod hti
      have hbs := hbu.2 _ (List.getElem_mem (show i < elems.length by omega))
      obtain ⟨_, _, hc⟩ := World.cells?_some hci
      have k0 := hc 0 (by omega)
      have k1 := hc 1 (by omega)
      have k2 := hc 2 (by omega)
      have k3 := hc 3 (by omega)
      have k4 := hc 4 (by omega)
      rw [add_no, add_no] at k0 k1 k2 k3 k4
      simp at k0 k1 k2 k3 k4
      exact ⟨s, ab, ao, rfl, World.block_lt_of_cell? W _ k0, k0, k1, k2, k3, k4, q1, q2, by omega⟩
    obtain ⟨l, hll, hlp⟩ := choose_steps len hex
    exact ⟨some a, cap, l, by rw [hll], hlp, by omega⟩
end Go.Proofs.YtbmohenjphmlgaaGreat

/- The walks of sums and referred (of the document's own answer). -/
namespace Go.Proofs.YtbmohenjphmlgaaGreat
open Go.RowKit
set_option maxRecDepth 100000

/-- Texts of a call's own. -/
def STexts (ls : List (List UInt8)) (w : World) (e : Ending) (w' : World) : Prop :=
  ∃ v L, e = .returned v ∧ TOwn w' w.heap.size v L ∧ bl L = ls ∧ Below w.heap.size w w'

theorem box_kept {w w1 : World} {x y z : Value} {E : TypeId} (hb : Below (w.alloc (.cells #[x, y, z] E)).heap.size (w.alloc (.cells #[x, y, z] E)) w1) : w1.heap[w.heap.size]? = some (.cells #[x, y, z] E (0, 0)) ∧ Below w.heap.size w w1 := by
  refine ⟨(hb.block w.heap.size (by simp)).trans (heap_alloc_new w _), ?_⟩
  exact ((Below.refl _ _).alloc (Nat.le_refl _) _).trans (hb.mono (by simp))

set_option maxHeartbeats 1600000 in
theorem sums_none (t : Itm) (w : World) (a : Option Addr) (cap : Nat) (h : t.items = []) : Calls Tryz.prog 75 #[.agg #[.bool t.list, .string ⟨t.bytes.toArray⟩, .slice a t.items.length cap]] w (STexts [] w) := by
  have h0 : t.items.length = 0 := by rw [h]; rfl
  rw [h0]
  clear h h0
  go_enter Tryz.func75, Tryz.ntmps75
  go_wp2_with fail
  refine wp_loop_rounds 1 ?_
  rw [rounds_succ]
  go_wp2_with fail
  go_ret
  exact ⟨_, [], rfl, town_nil _ _, rfl, (Below.refl _ _).alloc (Nat.le_refl _) _⟩

set_option maxHeartbeats 1600000 in
theorem sums_leaf (n : Nat) (t : Itm) (w : World) (a : Option Addr) (cap : Nat) (hr : Rep w.heap.size w (n + 1) (.agg #[.bool t.list, .string ⟨t.bytes.toArray⟩, .slice a t.items.length cap]) t) (h2 : t.items.length = 2) (hwt : Itm.wt t ≤ 1000000) (p : List UInt8) (hu : Tr.unpath (Tr.kid t 0) = some (p, true)) : Calls Tryz.prog 75 #[.agg #[.bool t.list, .string ⟨t.bytes.toArray⟩, .slice a t.items.length cap]] w (STexts [] w) := by
  obtain ⟨b, off, a1, cap1, rfl, hbb, g0, g1, g2, r1⟩ := rep_kid hr 0 (by omega)
  simp only [Nat.zero_mul, Nat.add_zero] at g0 g1 g2
  have hw1 := kid_wt' t 0 (by omega)
  have HU := hid (fun w => unpath_any (Tr.kid t 0) w a1 cap1 (by have := bytes_le_wt (Tr.kid t 0); omega))
  have HP := hid hu
  have i1 : ((t.items.length : Int) == 2) = true := by simp; omega
  have i2 : (0 : Int) < (t.items.length : Int) := by omega
  clear hr r1 hu hw1
  generalize Tr.kid t 0 = q at *
  go_enter Tryz.func75, Tryz.ntmps75
  go_wp2_with fail
  refine (HU.out _).mono ?_
  rintro e w1 ⟨_, hy, b1⟩
  obtain ⟨ap, cp, rfl, _⟩ := hy p true HP.out
  obtain ⟨p1, hb⟩ := box_kept b1
  have HB := hid hb
  clear b1 hb hy
  go_wp2_with fail
  go_ret
  exact ⟨_, [], rfl, town_nil _ _, rfl, HB.out⟩

set_option maxHeartbeats 1600000 in
theorem referred_sum (t : Itm) (w : World) (a : Option Addr) (cap : Nat) (h : Tr.isSum t = true) : Calls Tryz.prog 109 #[.agg #[.bool t.list, .string ⟨t.bytes.toArray⟩, .slice a t.items.length cap]] w (STexts [t.bytes] w) := by
  have HI := hid (fun w => isSum_any t w a cap)
  rw [h] at HI
  obtain ⟨B, hB⟩ : ∃ B : ByteArray, B = ⟨t.bytes.toArray⟩ := ⟨_, rfl⟩
  have HBB : Hid (bl [B] = [t.bytes]) := by rw [hB]; rfl
  rw [← hB] at HI ⊢
  clear hB h
  go_enter Tryz.func109, Tryz.ntmps109
  go_wp2_with fail
  refine (HI.out _).mono ?_
  rintro e w1 ⟨rfl, b1⟩
  obtain ⟨p1, hb⟩ := box_kept b1
  have HB := hid hb
  have x1 := cell_of_row _ _ 1 _ _ _ p1
  clear b1 hb p1
  go_wp2_with fail
  go_ret
  refine ⟨_, [B], rfl, ?_, HBB.out, HB.out.alloc HB.out.size _⟩
  exact ⟨rfl, .inr ⟨w1.heap.size, 1, #[.string B], rfl, HB.out.size, heap_alloc_new _ _, by simp, by unfold maxLen; omega, rfl, rfl⟩⟩

set_option maxHeartbeats 1600000 in
theorem sums_ext (n : Nat) (t : Itm) (w : World) (a : Option Addr) (cap : Nat) (hr : Rep w.heap.size w (n + 1) (.agg #[.bool t.list, .string ⟨t.bytes.toArray⟩, .slice a t.items.length cap]) t) (h2 : t.items.length = 2) (hwt : Itm.wt t ≤ 1000000) (p : List UInt8) (hu : Tr.unpath (Tr.kid t 0) = some (p, false)) (hs : Tr.isSum (Tr.kid t 1) = true) : Calls Tryz.prog 75 #[.agg #[.bool t.list, .string ⟨t.bytes.toArray⟩, .slice a t.items.length cap]] w (STexts [(Tr.kid t 1).bytes] w) := by
  obtain ⟨b, off, a1, cap1, rfl, hbb, g0, g1, g2, r1⟩ := rep_kid hr 0 (by omega)
  obtain ⟨b', off', a2, cap2, hb', _, f0, f1, f2, r2⟩ := rep_kid hr 1 (by omega)
  cases hb'
  simp only [Nat.zero_mul, Nat.add_zero] at g0 g1 g2
  have hw1 := kid_wt' t 0 (by omega)
  have HU := hid (fun w => unpath_any (Tr.kid t 0) w a1 cap1 (by have := bytes_le_wt (Tr.kid t 0); omega))
  have HR := hid (fun w => referred_sum (Tr.kid t 1) w a2 cap2 hs)
  have HP := hid hu
  have i1 : ((t.items.length : Int) == 2) = true := by simp; omega
  have i2 : (0 : Int) < (t.items.length : Int) := by omega
  have i3 : (1 : Int) < (t.items.length : Int) := by omega
  clear hr r1 r2 hu hw1 hs
  generalize Tr.kid t 0 = q at *
  generalize Tr.kid t 1 = q1 at *
  go_enter Tryz.func75, Tryz.ntmps75
  go_wp2_with fail
  refine (HU.out _).mono ?_
  rintro e w1 ⟨_, hy, b1⟩
  obtain ⟨ap, cp, rfl, _⟩ := hy p false HP.out
  obtain ⟨p1, hb⟩ := box_kept b1
  have HB := hid hb
  have x2 := cell_of_row _ _ 2 _ _ _ p1
  have y0 : w1.cell? ⟨b, off + 3, none⟩ = _ := (hb.cell (p := ⟨b, off + 1 * 3, none⟩) hbb).trans f0
  have y1 : w1.cell? ⟨b, off + 4, none⟩ = _ := (hb.cell (p := ⟨b, off + 1 * 3 + 1, none⟩) hbb).trans f1
  have y2 : w1.cell? ⟨b, off + 5, none⟩ = _ := (hb.cell (p := ⟨b, off + 1 * 3 + 2, none⟩) hbb).trans f2
  clear b1 hb hy p1 f0 f1 f2 g0 g1 g2
  go_wp2_with fail
  refine (HR.out _).mono ?_
  rintro e w2 ⟨v, L, rfl, ho, hL, b2⟩
  have HO := hid ho
  have HL := hid hL
  have HB2 : Hid (Below w.heap.size w w2) := HB.out.trans (b2.mono HB.out.size)
  obtain ⟨av, cv, rfl, _⟩ := town_shape ho
  clear ho hL b2
  go_wp2_with fail
  go_ret
  exact ⟨_, L, rfl, owns_base HO.out HB.out.size, HL.out, HB2.out⟩

set_option maxHeartbeats 1600000 in
theorem referred_other (t : Itm) (w : World) (a : Option Addr) (cap : Nat) (ls : List (List UInt8)) (h : Tr.isSum t = false) (hs : ∀ W, Below w.heap.size w W → Calls Tryz.prog 75 #[.agg #[.bool t.list, .string ⟨t.bytes.toArray⟩, .slice a t.items.length cap]] W (STexts ls W)) : Calls Tryz.prog 109 #[.agg #[.bool t.list, .string ⟨t.bytes.toArray⟩, .slice a t.items.length cap]] w (STexts ls w) := by
  have HI := hid (fun w => isSum_any t w a cap)
  rw [h] at HI
  have HS := hid hs
  clear h hs
  go_enter Tryz.func109, Tryz.ntmps109
  go_wp2_with fail
  refine (HI.out _).mono ?_
  rintro e w1 ⟨rfl, b1⟩
  obtain ⟨p1, hb⟩ := box_kept b1
  have HB := hid hb
  have x0 := cell_of_row _ _ 0 _ _ _ p1
  have x1 := cell_of_row _ _ 1 _ _ _ p1
  have x2 := cell_of_row _ _ 2 _ _ _ p1
  clear b1 hb p1
  go_wp2_with fail
  refine (HS.out _ HB.out).mono ?_
  rintro e w2 ⟨v, L, rfl, ho, hL, b2⟩
  have HO := hid ho
  have HL := hid hL
  have HB2 : Hid (Below w.heap.size w w2) := HB.out.trans (b2.mono HB.out.size)
  obtain ⟨av, cv, rfl, _⟩ := town_shape ho
  clear ho hL b2
  go_wp2_with fail
  go_ret
  exact ⟨_, L, rfl, owns_base HO.out HB.out.size, HL.out, HB2.out⟩
end Go.Proofs.YtbmohenjphmlgaaGreat
