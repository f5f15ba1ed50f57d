/- Part 35 of a proof: what the last text needs. -/
import Derived.Test.YtbmohenjphmlgaaGreatPart33
import Derived.Test.YtbmohenjphmlgaaGreatPart34
/- The walk of step, of a game (of the statements): Drop; all kinds of steps together. -/
namespace Go.Proofs.YtbmohenjphmlgaaGreat
open Go.RowKit
set_option maxRecDepth 100000

/-- What the program's keeper does when a head is dropped. -/
def GDrop (out own : Nat → Prop) (k0 : Nat) (l : List (Int × ByteArray)) (S : List (List UInt8)) (x : Int) (w : World) (e : Ending) (w' : World) : Prop :=
  (∃ (p : Nat) (_h : p < l.length), l[p].1 = x ∧ e = .returned (.int .i64 0) ∧ GDone out own w k0 (l.eraseIdx p) (Tr.forget S (bl (rootsB (l.eraseIdx p)))) w') ∨
  ((∀ q ∈ l, q.1 ≠ x) ∧ e = .returned (.int .i64 10) ∧ GDone out own w k0 l S w')

theorem gDrop_any {out own : Nat → Prop} {w : World} {k0 : Nat} {l : List (Int × ByteArray)} {S : List (List UInt8)} (h : GAt out own w k0 l S) (x : Int) :
    Calls Tryz.prog 22 #[.pointer (some ⟨k0, 0, none⟩), .int .i64 x] w (GDrop out own k0 l S x w) := by
  rcases mem_or_none l x with ⟨i, hi, hix⟩ | hne
  · refine (gat_drop h hi hix (fun _ r k2 k3 F hne => reach_all k2 k3 r S F (.inr rfl) hne (by have := gat_most h; omega))).mono ?_
    rintro e w' ⟨rfl, g1, g2⟩
    exact .inl ⟨i, hi, hix, rfl, own, g1, fun _ hk => .inl hk, g2⟩
  · obtain ⟨k1, k2, k3, base, ha, hcap, F, h0⟩ := id h
    refine (outer_drop h0.outer (Q := fun n w' => n = 10 ∧ Below w.heap.size w w') ((drop_none k1 ha hcap l _ x w h0.inner (hown_rd h0.heads) h0.few h0.rises hne).mono ?_)).mono ?_
    · rintro e w' ⟨rfl, hb⟩
      exact ⟨10, rfl, rfl, hb⟩
    · rintro e w' ⟨n, rfl, rfl, hb⟩
      exact .inr ⟨hne, rfl, gdone_below h hb⟩

theorem rises_same {l : List (Int × ByteArray)} (hr : Rises l) {x : Int} {p q : Nat} (hp : p < l.length) (hq : q < l.length) (h1 : l[p].1 = x) (h2 : l[q].1 = x) : p = q := by
  rcases Nat.lt_trichotomy p q with h | h | h
  · have := hr.at h hq; omega
  · exact h
  · have := hr.at h hp; omega

section
variable {F : Nat → Prop} {w : World} {B k0 r0 : Nat} {l : List (Int × ByteArray)} {S : List (List UInt8)} {K : List ByteArray} {Q : Nat} {Lw : List (List (Int × ByteArray))} {own R : Nat → Prop} {c : Nat → Nat} {it wi we : Value}

set_option maxHeartbeats 3200000 in
theorem step_drop (x : Int) (r : ByteArray) (v : Value) (t : Int) (h : GmAt F w B k0 r0 l S l K Q Lw own R c it wi we) (hp : S.Perm (bl K)) :
    Calls Tryz.prog 23 #[.pointer (some ⟨B, 0, none⟩), .agg #[.int .i64 5, .int .i64 x, .string r, v, .int .i64 t]] w fun e w' => e = .returned (.bool true) ∧ ∃ l' S' K', S'.Perm (bl K') ∧ GmDone F w B k0 r0 l' S' K' Q Lw w' := by
  have HSZ := hid (h.sizes hp)
  have HP := hid hp
  have hb : Below w.heap.size w (w.alloc (.cells #[.int .i64 5, .int .i64 x, .string r, v, .int .i64 t] 63)) := (Below.refl _ _).alloc (Nat.le_refl _) _
  have H1 := hid (h.fresh hb)
  have HB1 := hid hb
  obtain ⟨x0, x1⟩ := H1.out.cells
  have hX := box5 w (.int .i64 5) (.int .i64 x) (.string r) v (.int .i64 t) 63
  have HXF : Hid (w.heap.size ≤ w.heap.size ∧ w.heap.size < (w.alloc (.cells #[.int .i64 5, .int .i64 x, .string r, v, .int .i64 t] 63)).heap.size) := ⟨Nat.le_refl _, by simp⟩
  have y1 := cell_of_row _ _ 1 _ _ _ hX
  have HNU := hid num_any
  have HSM := hid h.small
  clear h hb hX hp
  go_enter Tryz.func23, Tryz.ntmps23
  go_wp2_with fail
  generalize hW1 : w.alloc (.cells #[.int .i64 5, .int .i64 x, .string r, v, .int .i64 t] 63) = W1 at *
  have HLS : Hid (∀ k, F k → F k ∨ (w.heap.size ≤ k ∧ k < W1.heap.size)) := fun k hk => .inl hk
  have HXF1 : Hid (F w.heap.size ∨ (w.heap.size ≤ w.heap.size ∧ w.heap.size < W1.heap.size)) := .inr HXF.out
  generalize hF1 : (fun k => F k ∨ (w.heap.size ≤ k ∧ k < W1.heap.size)) = F1 at H1
  have hF1' : ∀ k, (F k ∨ (w.heap.size ≤ k ∧ k < W1.heap.size)) = F1 k := fun k => by rw [← hF1]
  rw [hF1'] at HXF1
  have HLS1 : Hid (∀ k, F k → F1 k) := fun k hk => by rw [← hF1']; exact HLS.out k hk
  clear hF1 hF1' HLS hW1
  have H1D := hid (H1.out.later ((Below.refl _ _).drew))
  rcases mem_or_none l x with ⟨i, hi, hix⟩ | hne
  · have HTR : Hid (Calls Tryz.prog 22 #[.pointer (some ⟨k0, 0, none⟩), .int .i64 x] W1.drew fun e w' => e = .returned (.int .i64 0) ∧ GDone (fun k => F1 k ∨ R k ∨ c k ≠ 0) own W1.drew k0 (l.eraseIdx i) (Tr.forget S (bl (rootsB (l.eraseIdx i)))) w') := by
      refine (gDrop_any H1D.out.keep x).mono ?_
      rintro e w' (⟨p, hp, hpx, rfl, g⟩ | ⟨hne, _⟩)
      · obtain rfl := rises_same HSZ.out.1 hp hi hpx hix
        exact ⟨rfl, g⟩
      · exact absurd hix (hne _ (List.getElem_mem hi))
    go_region_held3 (fun w' => w'.cell? ⟨B, 0, none⟩ = some (.pointer (some ⟨k0, 0, none⟩)) ∧ w'.cell? ⟨w.heap.size, 1, none⟩ = some (.int .i64 x)) ((first | exact ⟨z0, z1⟩ | go_keep))
      ((go_at_call 22; refine HTR.out.mono ?_; rintro e w2 ⟨rfl, hd⟩; obtain ⟨⟨own2, h2⟩, t2⟩ := H1D.out.kept hd; have z0 := h2.cells.1; have zx := t2.block w.heap.size HXF.out.2 (fun hn => hn HXF1.out); have z1 := (World.cell?_of_block (a := ⟨w.heap.size, 1, none⟩) zx).trans y1))
    all_goals
      have H2 := hid h2
      have HT2 := hid ((turns_drew _ _).trans t2)
      have HX2 : Hid (w.heap.size < w2.heap.size) := Nat.lt_of_lt_of_le HXF.out.2 t2.size
      have u0 := h2.cells.2
      clear h2 t2 hd y1 zx z0 x0 x1 HTR H1D H1
      go_wp2_with fail
      have H2D := hid (H2.out.later ((Below.refl _ _).drew))
      have HTR : Hid (Calls Tryz.prog 43 #[.pointer (some ⟨r0, 0, none⟩), .int .i64 x] w2.drew fun e w' => e = .returned (.int .i64 0) ∧ ∃ K' L, RDone R w2.drew r0 (l.eraseIdx i) K' w' ∧ Tr.AllOf (bl K) (bl (rootsB (l.eraseIdx i))) L ∧ bl K' = (bl K).filter (fun e => decide (Tr.sum e ∈ L)) ∧ ∀ e ∈ K', e ∈ K) := by
        refine (refDrop_any R r0 l K x _ H2D.out.ref HSZ.out.2.1 HSZ.out.2.2.2.2.1 HSM.out HSZ.out.2.2.2.2.2).mono ?_
        rintro e w' (⟨p, hp, hpx, rfl, g⟩ | ⟨hne, _⟩)
        · obtain rfl := rises_same HSZ.out.1 hp hi hpx hix
          exact ⟨rfl, g⟩
        · exact absurd hix (hne _ (List.getElem_mem hi))
      go_region_held3 (fun w' => w'.cell? ⟨B, 1, none⟩ = some (.pointer (some ⟨r0, 0, none⟩)) ∧ w'.cell? ⟨w.heap.size, 1, none⟩ = some (.int .i64 x)) ((first | exact ⟨s0, s1⟩ | go_keep))
        ((go_at_call 43; refine HTR.out.mono ?_; rintro e w3 ⟨rfl, K3, L3, hd, hao, hbl, hsub⟩; obtain ⟨⟨R3, h3⟩, t3⟩ := H2D.out.told hd (fun e he => HSM.out e (hsub e he)); have s0 := h3.cells.2; have sx := t3.block w.heap.size HX2.out (fun hn => hn HXF1.out); have s1 := (World.cell?_of_block (a := ⟨w.heap.size, 1, none⟩) sx).trans z1))
      all_goals
        have H3 := hid h3
        have HT3 := hid (HT2.out.trans ((turns_drew _ _).trans t3))
        have HPP : Hid ((Tr.forget S (bl (rootsB (l.eraseIdx i)))).Perm (bl K3)) := by
          rw [Hid, hbl]
          exact Tr.forget_perm HSZ.out.2.2.2.1 HP.out hao _ (fun e => by simp)
        clear h3 t3 hd hao hbl hsub z1 sx s0 s1 u0 HTR H2D H2
        go_wp2_with fail
        refine (HNU.out _ _).mono ?_
        rintro e w4 ⟨rfl, hw⟩
        obtain rfl := hw.symm
        clear hw
        go_wp2_with fail
        go_ret
        exact ⟨rfl, _, _, K3, HPP.out, ⟨own2, R3, c, it, wi, we, H3.out.less HLS1.out⟩, Turns.narrow HB1.out HT3.out (fun k _ hk => HLS1.out k hk)⟩
  · have HTR : Hid (Calls Tryz.prog 22 #[.pointer (some ⟨k0, 0, none⟩), .int .i64 x] W1.drew fun e w' => e = .returned (.int .i64 10) ∧ GDone (fun k => F1 k ∨ R k ∨ c k ≠ 0) own W1.drew k0 l S w') := by
      refine (gDrop_any H1D.out.keep x).mono ?_
      rintro e w' (⟨p, hp, hpx, rfl, g⟩ | ⟨_, rfl, g⟩)
      · exact absurd hpx (hne _ (List.getElem_mem hp))
      · exact ⟨rfl, g⟩
    go_region_held3 (fun w' => w'.cell? ⟨B, 0, none⟩ = some (.pointer (some ⟨k0, 0, none⟩)) ∧ w'.cell? ⟨w.heap.size, 1, none⟩ = some (.int .i64 x)) ((first | exact ⟨z0, z1⟩ | go_keep))
      ((go_at_call 22; refine HTR.out.mono ?_; rintro e w2 ⟨rfl, hd⟩; obtain ⟨⟨own2, h2⟩, t2⟩ := H1D.out.kept hd; have z0 := h2.cells.1; have zx := t2.block w.heap.size HXF.out.2 (fun hn => hn HXF1.out); have z1 := (World.cell?_of_block (a := ⟨w.heap.size, 1, none⟩) zx).trans y1))
    all_goals
      have H2 := hid h2
      have HT2 := hid ((turns_drew _ _).trans t2)
      have HX2 : Hid (w.heap.size < w2.heap.size) := Nat.lt_of_lt_of_le HXF.out.2 t2.size
      have u0 := h2.cells.2
      clear h2 t2 hd y1 zx z0 x0 x1 HTR H1D H1
      go_wp2_with fail
      have H2D := hid (H2.out.later ((Below.refl _ _).drew))
      have HTR : Hid (Calls Tryz.prog 43 #[.pointer (some ⟨r0, 0, none⟩), .int .i64 x] w2.drew fun e w' => e = .returned (.int .i64 10) ∧ RDone R w2.drew r0 l K w') := by
        refine (refDrop_any R r0 l K x _ H2D.out.ref HSZ.out.2.1 HSZ.out.2.2.2.2.1 HSM.out HSZ.out.2.2.2.2.2).mono ?_
        rintro e w' (⟨p, hp, hpx, rfl, g⟩ | ⟨_, rfl, g⟩)
        · exact absurd hpx (hne _ (List.getElem_mem hp))
        · exact ⟨rfl, g⟩
      go_region_held3 (fun w' => w'.cell? ⟨B, 1, none⟩ = some (.pointer (some ⟨r0, 0, none⟩)) ∧ w'.cell? ⟨w.heap.size, 1, none⟩ = some (.int .i64 x)) ((first | exact ⟨s0, s1⟩ | go_keep))
        ((go_at_call 43; refine HTR.out.mono ?_; rintro e w3 ⟨rfl, hd⟩; obtain ⟨⟨R3, h3⟩, t3⟩ := H2D.out.told hd HSM.out; have s0 := h3.cells.2; have sx := t3.block w.heap.size HX2.out (fun hn => hn HXF1.out); have s1 := (World.cell?_of_block (a := ⟨w.heap.size, 1, none⟩) sx).trans z1))
      all_goals
        have H3 := hid h3
        have HT3 := hid (HT2.out.trans ((turns_drew _ _).trans t3))
        clear h3 t3 hd z1 sx s0 s1 u0 HTR H2D H2
        go_wp2_with fail
        refine (HNU.out _ _).mono ?_
        rintro e w4 ⟨rfl, hw⟩
        obtain rfl := hw.symm
        clear hw
        go_wp2_with fail
        go_ret
        exact ⟨rfl, l, S, K, HP.out, ⟨own2, R3, c, it, wi, we, H3.out.less HLS1.out⟩, Turns.narrow HB1.out HT3.out (fun k _ hk => HLS1.out k hk)⟩
end

theorem gm_stepAll {F : Nat → Prop} {w : World} {B n : Nat} (h : Gm 3 F w B n) (s : Stp) (hs : StpOk F w s) :
    Calls Tryz.prog 23 #[.pointer (some ⟨B, 0, none⟩), s.val] w fun e w' => e = .returned (.bool true) ∧ Gm 5 F w' B (n + 2) ∧ Turns (Mine F) w w' := by
  by_cases h5 : s.kind = 5
  · obtain ⟨k0, r0, l, S, K, Q, Lw, own, R, c, it, wi, we, h1, h2, h3, h4⟩ := h
    obtain ⟨kind, x, r, pa, pc, p, t⟩ := s
    unfold Stp.val
    dsimp only at h5 ⊢
    subst h5
    refine (step_drop x r _ t h1 h2).mono ?_
    rintro e w' ⟨rfl, l', S', K', hp', ⟨own', R', c', it', wi', we', g⟩, gt⟩
    exact ⟨rfl, ⟨k0, r0, l', S', K', Q, _, own', R', c', it', wi', we', g, hp', by omega, by omega⟩, gt⟩
  · exact gm_step h s hs h5
end Go.Proofs.YtbmohenjphmlgaaGreat

/- The walk of plays with two keepers, and of All (of the statements). -/
namespace Go.Proofs.YtbmohenjphmlgaaGreat
open Go.RowKit
set_option maxRecDepth 100000

/-- Two games side by side: of every block one at least has no part. -/
def Two (m m' : Nat) (W : World) (B B' n : Nat) (w : World) : Prop :=
  ∃ F F', Gm m F w B n ∧ Gm m' F' w B' n ∧ (∀ k, k < w.heap.size → F k ∨ F' k) ∧ (∀ k, k < W.heap.size → F k ∧ F' k) ∧ Below W.heap.size W w

theorem Two.swap {m m' : Nat} {W w : World} {B B' n : Nat} (h : Two m m' W B B' n w) : Two m' m W B' B n w := by
  obtain ⟨F, F', h1, h2, h3, h4, h5⟩ := h
  exact ⟨F', F, h2, h1, fun k hk => (h3 k hk).symm, fun k hk => (h4 k hk).symm, h5⟩

theorem Two.old {m m' : Nat} {W w : World} {B B' n : Nat} (h : Two m m' W B B' n w) : Below W.heap.size W w := by
  obtain ⟨F, F', h1, h2, h3, h4, h5⟩ := h
  exact h5

theorem Two.more {m m' : Nat} {W w : World} {B B' n n' : Nat} (h : Two m m' W B B' n w) (hn : n ≤ n') : Two m m' W B B' n' w := by
  obtain ⟨F, F', h1, h2, h3, h4, h5⟩ := h
  exact ⟨F, F', gm_more h1 (Nat.le_refl _) hn, gm_more h2 (Nat.le_refl _) hn, h3, h4, h5⟩

theorem Two.box {m m' : Nat} {W w w' : World} {B B' n : Nat} (h : Two m m' W B B' n w) (hb : Below w.heap.size w w') : Two m m' W B B' n w' := by
  obtain ⟨F, F', h1, h2, h3, h4, h5⟩ := h
  refine ⟨_, _, gm_others h1 (Turns.of_below hb), gm_others h2 (Turns.of_below hb), fun k hk => ?_, fun k hk => ⟨.inl (h4 k hk).1, .inl (h4 k hk).2⟩, h5.trans (hb.mono h5.size)⟩
  by_cases hkw : k < w.heap.size
  · exact (h3 k hkw).imp .inl .inl
  · exact .inl (.inr ⟨by omega, hk⟩)

/-- The first of the two has done something. -/
theorem two_done {m m' : Nat} {W w w' : World} {B B' n n' : Nat} {F F' : Nat → Prop} (hn : n ≤ n') (h1 : Gm m F w' B n') (ht : Turns (Mine F) w w') (h2 : Gm m' F' w B' n) (h3 : ∀ k, k < w.heap.size → F k ∨ F' k) (h4 : ∀ k, k < W.heap.size → F k ∧ F' k) (h5 : Below W.heap.size W w) : Two m m' W B B' n' w' := by
  have ht' : Turns F' w w' := ⟨ht.os, ht.tape, ht.output, ht.size, fun k hk hn => ht.block k hk (fun hm => hm ((h3 k hk).resolve_right hn))⟩
  refine ⟨F, _, h1, gm_more (gm_others h2 ht') (Nat.le_refl _) hn, fun k hk => ?_, fun k hk => ⟨(h4 k hk).1, .inl (h4 k hk).2⟩, turns_old h5 ht (fun k hk => (h4 k hk).1)⟩
  by_cases hkw : k < w.heap.size
  · exact (h3 k hkw).imp id .inl
  · exact .inr (.inr ⟨by omega, hk⟩)

theorem two_step {W w : World} {B B' n : Nat} (h : Two 3 3 W B B' n w) (s : Stp) (hs : StpOk (fun k => k < W.heap.size) w s) :
    Calls Tryz.prog 23 #[.pointer (some ⟨B, 0, none⟩), s.val] w fun e w' => e = .returned (.bool true) ∧ Two 5 3 W B B' (n + 2) w' := by
  obtain ⟨F, F', h1, h2, h3, h4, h5⟩ := h
  refine (gm_stepAll h1 s ⟨hs.1, hs.2.1, hs.2.2.1, fun b off e e0 => (h4 b (hs.2.2.2 b off e e0)).1⟩).mono ?_
  rintro e w' ⟨rfl, g, gt⟩
  exact ⟨rfl, two_done (by omega) g gt h2 h3 h4 h5⟩

theorem two_look {W w : World} {B B' n : Nat} (h : Two 5 3 W B B' n w) (hn : n ≤ 100000000000) :
    Calls Tryz.prog 24 #[.pointer (some ⟨B, 2, none⟩)] w fun e w' => e = .returned (.bool true) ∧ Two 3 3 W B B' n w' := by
  obtain ⟨F, F', h1, h2, h3, h4, h5⟩ := h
  refine (gm_look h1 hn).mono ?_
  rintro e w' ⟨rfl, g, gt⟩
  exact ⟨rfl, two_done (Nat.le_refl _) g gt h2 h3 h4 h5⟩

theorem two_ends {W w : World} {B B' n : Nat} (h : Two 3 3 W B B' n w) (hn : n ≤ 99999999990) :
    Calls Tryz.prog 25 #[.pointer (some ⟨B, 0, none⟩)] w fun e w' => e = .returned (.bool true) ∧ Two 3 3 W B B' (n + 2) w' := by
  obtain ⟨F, F', h1, h2, h3, h4, h5⟩ := h
  refine (gm_ends h1 hn).mono ?_
  rintro e w' ⟨rfl, g, gt⟩
  exact ⟨rfl, two_done (by omega) g gt h2 h3 h4 h5⟩

set_option maxHeartbeats 6400000 in
theorem plays_two (W w : World) (B B' : Nat) (a : Option Addr) (cap : Nat) (l : List Stp) (h : Two 3 3 W B B' 0 w) (hr : StRd W.heap.size W a l) (hl : l.length ≤ 1048576) :
    Calls Tryz.prog 7 #[.pointer (some ⟨B, 0, none⟩), .pointer (some ⟨B', 0, none⟩), .slice a l.length cap, .int .i64 5] w fun e w' => e = .returned (.bool true) ∧ Below W.heap.size W w' := by
  have HG := hid h
  have HR := hid hr
  have HNG := hid nil_game
  clear h hr
  go_enter Tryz.func7, Tryz.ntmps7
  go_wp2_with (simp only [HNG.out])
  go_loopw [9] (fun i wr => ∃ k : Nat, i = .int .i64 k ∧ k ≤ l.length ∧ Hid (Two 3 3 W B B' (2 * k) wr)) (fun i _ => l.length - (intOf i).toNat)
  case atStart => exact ⟨0, rfl, Nat.zero_le _, HG.out⟩
  case round =>
    obtain ⟨k, rfl, hk, HS⟩ := hrel
    have HO := hid HS.out.old
    by_cases hlt : k < l.length
    · have i2 : (k : Int) < (l.length : Int) := by omega
      have i1 : (0 : Int) ≤ (k : Int) := by omega
      have HOK := hid (stRd_ok HR.out HO.out hlt)
      obtain ⟨b, off, rfl, hbW, c0, c1, c2, c3, c4, _⟩ := HR.out k hlt
      have x0 := (HO.out.cell (p := ⟨b, off + k * 5, none⟩) hbW).trans c0
      have x1 := (HO.out.cell (p := ⟨b, off + k * 5 + 1, none⟩) hbW).trans c1
      have x2 := (HO.out.cell (p := ⟨b, off + k * 5 + 2, none⟩) hbW).trans c2
      have x3 := (HO.out.cell (p := ⟨b, off + k * 5 + 3, none⟩) hbW).trans c3
      have x4 := (HO.out.cell (p := ⟨b, off + k * 5 + 4, none⟩) hbW).trans c4
      generalize l[k] = s at *
      clear c0 c1 c2 c3 c4
      obtain ⟨kind, x, r, pa, pc, p, t⟩ := s
      dsimp only at x0 x1 x2 x3 x4
      have HG1 := hid (HS.out.box ((Below.refl _ _).alloc (Nat.le_refl _) (.cells #[.int .i64 kind, .int .i64 x, .string r, .slice pa p.length pc, .int .i64 t] 63)))
      by_cases hk4 : kind ≤ 5
      · have j1 : ¬ (5 : Int) < kind := by omega
        have HOK1 := hid (stpOk_turns (w' := wr.alloc (.cells #[.int .i64 kind, .int .i64 x, .string r, .slice pa p.length pc, .int .i64 t] 63)) HOK.out (by simp) (fun k hk => by rw [Below.heap_alloc _ _ _ (Nat.lt_of_lt_of_le hk HO.out.size)]))
        by_cases hT : t.tmod 2 = 0
        · have HST := hid (two_step HG1.out ⟨kind, x, r, pa, pc, p, t⟩ HOK1.out)
          unfold Stp.val at HST
          go_wp2_with fail
          refine HST.out.mono ?_
          rintro e w2 ⟨rfl, g2⟩
          have HLK := hid (two_look g2 (by omega))
          clear g2 HST
          go_wp2_with fail
          refine HLK.out.mono ?_
          rintro e w3 ⟨rfl, g3⟩
          have HG3 := hid g3
          clear g3 HLK
          go_wp2_with fail
          exact ⟨⟨k + 1, by go_num, by omega, HG3.out⟩, by simp [intOf]; omega⟩
        · have HST := hid (two_step HG1.out.swap ⟨kind, x, r, pa, pc, p, t⟩ HOK1.out)
          unfold Stp.val at HST
          go_wp2_with fail
          refine HST.out.mono ?_
          rintro e w2 ⟨rfl, g2⟩
          have HLK := hid (two_look g2 (by omega))
          clear g2 HST
          go_wp2_with fail
          refine HLK.out.mono ?_
          rintro e w3 ⟨rfl, g3⟩
          have HG3 := hid g3.swap
          clear g3 HLK
          go_wp2_with fail
          exact ⟨⟨k + 1, by go_num, by omega, HG3.out⟩, by simp [intOf]; omega⟩
      · have j1 : (5 : Int) < kind := by omega
        go_wp2_with fail
        exact ⟨⟨k + 1, by go_num, by omega, HG1.out.more (by omega)⟩, by simp [intOf]; omega⟩
    · have i2 : ¬ (k : Int) < (l.length : Int) := by omega
      have HE := hid (two_ends HS.out (by omega))
      go_wp2_with fail
      refine HE.out.mono ?_
      rintro e w1 ⟨rfl, g1⟩
      have HE1 := hid (two_ends g1.swap (by omega))
      clear g1 HE
      go_wp2_with fail
      refine HE1.out.mono ?_
      rintro e w2 ⟨rfl, g2⟩
      have HB2 := hid g2.old
      clear g2 HE1
      go_wp2_with fail
      go_ret
      exact ⟨rfl, HB2.out⟩

theorem allTwo_any (W : World) (a : Option Addr) (cap : Nat) (l : List Stp) (hr : StRd W.heap.size W a l) (hl : l.length ≤ 1048576) :
    Calls Tryz.prog 4 #[.slice a l.length cap] W fun e w' => e = .returned (.bool true) ∧ Below W.heap.size W w' := by
  have HBE := hid begin_any
  have HP := hid (fun w B B' h => plays_two W w B B' a cap l h hr hl)
  clear hr hl
  go_enter Tryz.func4, Tryz.ntmps4
  go_wp2_with fail
  refine (HBE.out W).mono ?_
  rintro e w1 ⟨B, rfl, hg, hb⟩
  have HG := hid hg
  have HB := hid hb
  clear hg hb
  go_wp2_with fail
  refine (HBE.out w1).mono ?_
  rintro e w2 ⟨B', rfl, hg2, hb2⟩
  have HTW : Hid (Two 3 3 W B B' 0 w2) := by
    refine ⟨_, _, gm_others HG.out (Turns.of_below hb2), hg2, fun k hk => ?_, fun k hk => ⟨.inl hk, Nat.lt_of_lt_of_le hk HB.out.size⟩, HB.out.trans (hb2.mono HB.out.size)⟩
    by_cases hkw : k < w1.heap.size
    · exact .inr hkw
    · exact .inl (.inr ⟨by omega, hk⟩)
  have HPL := hid (HP.out w2 B B' HTW.out)
  clear hg2 hb2 HP HBE HTW
  go_wp2_with fail
  refine HPL.out.mono ?_
  rintro e w3 ⟨rfl, hb3⟩
  have HB3 := hid hb3
  clear hb3 HPL
  go_wp2_with fail
  go_ret
  exact ⟨rfl, HB3.out⟩
end Go.Proofs.YtbmohenjphmlgaaGreat
