/- Part 25 of a proof: what the last text needs. -/
import Derived.Test.YtbmohenjphmlgaaPart13
import Derived.Test.YtbmohenjphmlgaaPart8
import Derived.Test.YtbmohenjphmlgaaPart6
import Derived.Test.YtbmohenjphmlgaaPart23
import Derived.Test.YtbmohenjphmlgaaPart24
import Derived.Test.YtbmohenjphmlgaaPart18
/- Plain mathematics of trees: the digits of a way are those of the key; how great an item is that was read. -/
namespace Go.Proofs.Ytbmohenjphmlgaa
set_option maxRecDepth 100000

theorem Itm.wt_le_enc (t : Itm) : Itm.pure t = true → Itm.wt t ≤ 11 * (Itm.enc t).length := by
  refine Itm.ind (p := fun t => Itm.pure t = true → Itm.wt t ≤ 11 * (Itm.enc t).length) ?_ t
  intro t ih hp
  rw [Itm.pure_eq] at hp
  simp only [Bool.and_eq_true] at hp
  obtain ⟨hp1, hp2⟩ := hp
  rw [Itm.wt_eq, Itm.enc_eq]
  by_cases hl : t.list
  · rw [if_pos hl] at hp1 ⊢
    have hb : t.bytes = [] := by simpa using hp1
    have h1 := Itm.headed_len 192 (t.items.flatMap Itm.enc)
    have h2 : ∀ l : List Itm, (∀ x ∈ l, Itm.wt x ≤ 11 * (Itm.enc x).length) → (l.map Itm.wt).sum ≤ 11 * (l.flatMap Itm.enc).length := by
      intro l
      induction l with
      | nil => intro _; simp
      | cons x l ihl =>
        intro hx
        have a1 := hx x (by simp)
        have a2 := ihl (fun y hy => hx y (by simp [hy]))
        simp only [List.map_cons, List.sum_cons, List.flatMap_cons, List.length_append]
        omega
    have h3 := h2 t.items (fun x hx => ih x hx (by simp only [List.all_eq_true] at hp2; exact hp2 x hx))
    rw [hb]
    simp only [List.length_nil]
    omega
  · rw [if_neg hl] at hp1 ⊢
    have h0 : t.items = [] := by simpa using hp1
    rw [h0]
    simp only [List.map_nil, List.sum_nil]
    have hle : t.bytes.length ≤ (Itm.encB t.bytes).length := by
      unfold Itm.encB
      split
      · exact Nat.le_refl _
      · have := Itm.headed_len 128 t.bytes; omega
    have hpos : 0 < (Itm.encB t.bytes).length := by
      have hne := Itm.enc_ne t
      rw [Itm.enc_eq, if_neg hl] at hne
      exact List.length_pos_iff.2 hne
    omega


end Go.Proofs.Ytbmohenjphmlgaa

/- The walk of reference (of the document's own answer), given that of node; the entries behind what they share. -/
namespace Go.Proofs.Ytbmohenjphmlgaa
open Go.RowKit
set_option maxRecDepth 100000

/-- node answers as the document says, with so many steps down. -/
def NodeAt (f : Nat) : Prop := ∀ (l : List Tr.Ent) (a : Option Addr) (cap : Nat) (w : World), ERd w.heap.size w a l → Tr.Fits f l → Tr.Apart l → l.length ≤ 60 → Calls Try.prog 55 #[.slice a l.length cap] w (NodePost (f + 1) (Tr.node f l) w)

/-- The same of reference. -/
def RefAt (f : Nat) : Prop := ∀ (l : List Tr.Ent) (a : Option Addr) (cap : Nat) (w : World), ERd w.heap.size w a l → Tr.Fits f l → Tr.Apart l → l.length ≤ 60 → Calls Try.prog 77 #[.slice a l.length cap] w (NodePost (f + 1) (Tr.ref (Tr.node f l)) w)

theorem node_wt (f : Nat) (l : List Tr.Ent) (hf : f ≤ 100) (h : Tr.Fits f l) : Itm.wt (Tr.node f l) ≤ 1000000000 := by
  have h1 := Itm.wt_le_enc _ (Tr.node_pure f l)
  have h2 := Tr.node_len f l hf h
  omega

set_option maxHeartbeats 1600000 in
theorem refR_any {f : Nat} (hf : f ≤ 100) (hN : NodeAt f) : RefAt f := by
  intro l a cap w hr hfit hap hl
  have HN := hid (fun w' (b : Below w.heap.size w w') => hN l a cap w' ((hr.later b).wider b.size) hfit hap hl)
  have HWT := hid (node_wt f l hf hfit)
  have HLEN : Hid ((Itm.enc (Tr.node f l)).length ≤ 1000000000) := Nat.le_trans (Tr.node_len f l hf hfit) (by decide)
  have HBI := hid (fun s w => bytesItemR_any s w)
  have HRF : Hid (Tr.ref (Tr.node f l) = if (Itm.enc (Tr.node f l)).length < 8 then Tr.node f l else Tr.itB (Tr.sum (Itm.enc (Tr.node f l)))) := rfl
  generalize Tr.node f l = t at *
  clear hr hfit hap hl hN
  go_enter Try.func77, Try.ntmps77
  go_wp2_with fail
  have HBA : Hid (Below w.heap.size w (w.alloc (.cells #[.bool false, .string ⟨#[]⟩, .slice none 0 0] 24))) := (Below.refl _ _).alloc (Nat.le_refl _) _
  refine (HN.out _ HBA.out).mono ?_
  rintro e w1 ⟨v1, rfl, o1, b1⟩
  obtain ⟨a1, c1, rfl⟩ := ow_shape o1
  have hR1 := old_block b1
  have HB1 : Hid (Below w.heap.size w w1) := HBA.out.trans (b1.mono HBA.out.size)
  have HO1 := hid o1
  have HRP := hid (rep_of_own _ _ _ _ _ (Nat.le_refl _) o1)
  have hsz1 : w.heap.size < w1.heap.size := (Array.getElem?_eq_some_iff.1 hR1).1
  have hne : ¬ w.heap.size = w1.heap.size := by omega
  clear o1 b1
  have HBX : Hid (Below w1.heap.size w1 (w1.alloc (.cells #[.bool t.list, .string ⟨t.bytes.toArray⟩, .slice a1 t.items.length c1] 24))) := (Below.refl _ _).alloc (Nat.le_refl _) _
  go_wp2_with fail
  refine (bytesR_any _ _ t _ (rep_later HBX.out HRP.out) HWT.out).mono ?_
  rintro e w2 ⟨rfl, b2⟩
  have hX2 := old_block b2
  have HB2 : Hid (Below w1.heap.size w1 w2) := HBX.out.trans (b2.mono HBX.out.size)
  have hR2 := (HB2.out.block _ hsz1).trans hR1
  clear b2
  obtain ⟨E, hE⟩ : ∃ E : ByteArray, E = ⟨(Itm.enc t).toArray⟩ := ⟨_, rfl⟩
  have hEs : E.size = (Itm.enc t).length := by rw [hE]; exact List.size_toArray ..
  have HES := hid hEs
  have HEd : Hid (E.data.toList = Itm.enc t) := by rw [Hid, hE]
  rw [← hE]
  clear hE
  by_cases h8 : (Itm.enc t).length < 8
  · rw [if_pos h8] at HRF
    have i8 : (E.size : Int) < 8 := by omega
    have x0 := (cell_of_row _ _ 0 _ _ _ hX2).trans rfl
    have x1 := (cell_of_row _ _ 1 _ _ _ hX2).trans rfl
    have x2 := (cell_of_row _ _ 2 _ _ _ hX2).trans rfl
    have r0 := (cell_of_row _ _ 0 _ _ _ hR2).trans rfl
    have r1 := (cell_of_row _ _ 1 _ _ _ hR2).trans rfl
    have r2 := (cell_of_row _ _ 2 _ _ _ hR2).trans rfl
    have g0 := frozen_of_row _ _ 0 _ _ hR2
    have g1 := frozen_of_row _ _ 1 _ _ hR2
    have g2 := frozen_of_row _ _ 2 _ _ hR2
    clear hEs h8
    go_wp2_with fail
    obtain ⟨z0, z1, z2⟩ := set3 hR2 (.bool t.list) (.string ⟨t.bytes.toArray⟩) (.slice a1 t.items.length c1)
    refine bodyPost_ret (v := .agg #[.bool t.list, .string ⟨t.bytes.toArray⟩, .slice a1 t.items.length c1]) (by simp [results, Try.results77, go_sem, z0, z1, z2]) rfl ⟨_, rfl, ?_, three_below (HB1.out.trans (HB2.out.mono HB1.out.size)) (Nat.le_refl _) _ _ _⟩
    rw [HRF.out]
    have hsz : (((w2.setCell ⟨w.heap.size, 0, none⟩ (.bool t.list)).setCell ⟨w.heap.size, 1, none⟩ (.string ⟨t.bytes.toArray⟩)).setCell ⟨w.heap.size, 2, none⟩ (.slice a1 t.items.length c1)).heap.size = w2.heap.size := by simp [World.setCell]
    rw [hsz]
    have ho := HO1.out
    rw [alloc_size] at ho
    refine own_widen (own_frame _ _ _ _ _ (fun k hk hk2 => ?_) ho) (Nat.le_succ _) HB2.out.size
    rw [setCell_block _ _ _ _ (by show k ≠ w.heap.size; omega), setCell_block _ _ _ _ (by show k ≠ w.heap.size; omega), setCell_block _ _ _ _ (by show k ≠ w.heap.size; omega)]
    exact HB2.out.block k hk2
  · rw [if_neg h8] at HRF
    have i8 : ¬ (E.size : Int) < 8 := by omega
    have HSM := hid (fun w => sumR_any E w (by rw [HES.out]; exact HLEN.out))
    have hsz2 : w.heap.size < w2.heap.size := Nat.lt_of_lt_of_le hsz1 HB2.out.size
    clear hEs h8
    go_wp2_with fail
    refine (HSM.out _).mono ?_
    rintro e w3 ⟨rfl, b3⟩
    have hR3 := (b3.block _ hsz2).trans hR2
    have HB3 : Hid (Below w1.heap.size w1 w3) := HB2.out.trans (b3.mono HB2.out.size)
    have hsz3 : w.heap.size < w3.heap.size := Nat.lt_of_lt_of_le hsz2 b3.size
    clear b3
    go_wp2_with fail
    refine (HBI.out _ _).mono ?_
    rintro e w4 ⟨rfl, b4⟩
    have hR4 := (b4.block _ hsz3).trans hR3
    have HB4 : Hid (Below w1.heap.size w1 w4) := HB3.out.trans (b4.mono HB3.out.size)
    have r0 := (cell_of_row _ _ 0 _ _ _ hR4).trans rfl
    have r1 := (cell_of_row _ _ 1 _ _ _ hR4).trans rfl
    have r2 := (cell_of_row _ _ 2 _ _ _ hR4).trans rfl
    have g0 := frozen_of_row _ _ 0 _ _ hR4
    have g1 := frozen_of_row _ _ 1 _ _ hR4
    have g2 := frozen_of_row _ _ 2 _ _ hR4
    clear b4
    go_wp2_with fail
    obtain ⟨z0, z1, z2⟩ := set3 hR4 (.bool false) (.string ⟨(Tr.sum E.data.toList).toArray⟩) (.slice none 0 0)
    refine bodyPost_ret (v := .agg #[.bool false, .string ⟨(Tr.sum E.data.toList).toArray⟩, .slice none 0 0]) (by simp [results, Try.results77, go_sem, z0, z1, z2]) rfl ⟨_, rfl, ?_, three_below (HB1.out.trans (HB4.out.mono HB1.out.size)) (Nat.le_refl _) _ _ _⟩
    rw [HRF.out]
    exact ow_bytes _ _ _ _ _ _ (by rw [HEd.out])
end Go.Proofs.Ytbmohenjphmlgaa

/- The walk of node (of the document's own answer), where the entries share digits. -/
namespace Go.Proofs.Ytbmohenjphmlgaa
open Go.RowKit
set_option maxRecDepth 100000

/-- What the making of an extension reads. -/
def ExS (X R Y : Nat) (y0 y1 y2 : Value) (w : World) : Prop := w.heap[X]? = some (.cells #[.bool true, .string ⟨#[]⟩, .slice none 0 0] 24 (0, 0)) ∧ w.heap[R]? = some (.cells #[.bool false, .string ⟨#[]⟩, .slice none 0 0] 24 (0, 0)) ∧ w.heap[Y]? = some (.cells #[y0, y1, y2] 24 (0, 0))

theorem exS_later {X R Y : Nat} {y0 y1 y2 : Value} {w w' : World} (h : ExS X R Y y0 y1 y2 w) (hb : Below w.heap.size w w') : ExS X R Y y0 y1 y2 w' :=
  ⟨kept_block hb h.1, kept_block hb h.2.1, kept_block hb h.2.2⟩

theorem map_take_succ (l : List Tr.Ent) (k n : Nat) (h : k < l.length) : (l.take (k + 1)).map (fun e => (⟨e.dig.drop n, e.val⟩ : Tr.Ent)) = (l.take k).map (fun e => (⟨e.dig.drop n, e.val⟩ : Tr.Ent)) ++ [⟨l[k].dig.drop n, l[k].val⟩] := by
  rw [List.take_succ_eq_append_getElem h, List.map_append]
  rfl

theorem brdC_take {B : Nat} {w : World} {a : Option Addr} {cap n : Nat} {l : List UInt8} (h : BrdC B w (.slice a l.length cap) l) (hn : n ≤ l.length) : BrdC B w (.slice a (l.take n).length cap) (l.take n) := by
  have hlen : (l.take n).length = n := by rw [List.length_take]; omega
  rcases h with ⟨hv, h0⟩ | ⟨b, off, cap', hv, hcap, hlt, hcell⟩
  · left
    simp only [Value.slice.injEq] at hv
    obtain ⟨rfl, _, rfl⟩ := hv
    subst h0
    simp
  · simp only [Value.slice.injEq] at hv
    obtain ⟨rfl, _, rfl⟩ := hv
    refine .inr ⟨b, off, cap, by rw [hlen], by omega, hlt, fun j hj => ?_⟩
    rw [List.getElem_take]
    exact hcell j (by omega)

set_option maxHeartbeats 12800000 in
theorem nodeR_ext {f : Nat} (hR : RefAt f) (x0 x1 : Tr.Ent) (r : List Tr.Ent) (a : Option Addr) (cap : Nat) (w : World) (hr : ERd w.heap.size w a (x0 :: x1 :: r)) (hfit : Tr.Fits (f + 1) (x0 :: x1 :: r)) (hf : f ≤ 100) (hap : Tr.Apart (x0 :: x1 :: r)) (hl : (x0 :: x1 :: r).length ≤ 60) (hsh : Tr.shared (x0 :: x1 :: r) ≠ []) :
    Calls Try.prog 55 #[.slice a (x0 :: x1 :: r).length cap] w (NodePost (f + 2) (Tr.node (f + 1) (x0 :: x1 :: r)) w) := by
  have hnode : Tr.node (f + 1) (x0 :: x1 :: r) = Tr.itL [Tr.itB (Tr.path (Tr.shared (x0 :: x1 :: r)) false), Tr.ref (Tr.node f (Tr.behind (Tr.shared (x0 :: x1 :: r)) (x0 :: x1 :: r)))] := by
    rw [Tr.node]; unfold Tr.nodeOf; simp only [if_neg hsh]
  have hall : ∀ e ∈ x0 :: x1 :: r, Tr.shared (x0 :: x1 :: r) <+: e.dig := fun e he => Tr.shared_pre _ e he
  have hbeh := Tr.behind_all hall
  have hdl : ∀ e ∈ x0 :: x1 :: r, e.dig.length ≤ 1000000 := fun e he => by have := (hfit e he).1; omega
  have HCM := hid (fun w' (b : Below w.heap.size w w') => commonR_any a cap x0 (x1 :: r) w' ((hr.later b).wider b.size) (by simp at hl ⊢; omega) hdl)
  have HRE := hid (fun a cap w h => hR (Tr.behind (Tr.shared (x0 :: x1 :: r)) (x0 :: x1 :: r)) a cap w h (hfit.behind hsh) hap.behind (Nat.le_trans (behind_len _ _) hl))
  have HBI := hid (fun s w => bytesItemR_any s w)
  have HR := hid hr
  have HALL : Hid (∀ k (hk : k < (x0 :: x1 :: r).length), (Tr.shared (x0 :: x1 :: r)).length ≤ (x0 :: x1 :: r)[k].dig.length) := fun k hk => (hall _ (List.getElem_mem hk)).length_le
  obtain ⟨b, off, ad, cd0, rfl, hb, e0, hval0, hbr0⟩ := hr 0 (by simp)
  clear hval0
  simp only [List.getElem_cons_zero, Nat.zero_mul, Nat.add_zero] at e0 hbr0
  have hpre := hall x0 (List.mem_cons_self ..)
  have hpt : x0.dig.take (Tr.shared (x0 :: x1 :: r)).length = Tr.shared (x0 :: x1 :: r) := (List.prefix_iff_eq_take.1 hpre).symm
  have h16 : ∀ c ∈ Tr.shared (x0 :: x1 :: r), c.toNat < 16 := fun c hc => (hfit x0 (List.mem_cons_self ..)).2.1 c (hpre.subset hc)
  have hple := hpre.length_le
  have HPA := hid (fun w' (bb : Below w.heap.size w w') => pathR_any ad cd0 _ false w' (brdC_take (n := (Tr.shared (x0 :: x1 :: r)).length) (hbr0.later bb) hple) (by rw [hpt]; exact h16) (by rw [hpt]; have := hdl x0 (List.mem_cons_self ..); omega))
  rw [hpt] at HPA
  have hcd0 : (Tr.shared (x0 :: x1 :: r)).length ≤ cd0 := by
    rcases hbr0 with ⟨hv, h0⟩ | ⟨_, _, cap', hv, hcap, _⟩
    · rw [h0] at hple; simp at hple; exact absurd (List.eq_nil_of_length_eq_zero (by rw [hple]; rfl)) hsh
    · simp only [Value.slice.injEq] at hv; omega
  rw [hnode]
  have hL2 : 2 ≤ (x0 :: x1 :: r).length := by simp
  have HX0 : Hid ((x0 :: x1 :: r).length = (x1 :: r).length + 1) := rfl
  have hnpos : 0 < (Tr.shared (x0 :: x1 :: r)).length := List.length_pos_iff.2 hsh
  rw [hbeh] at HRE
  have hdl0 := hdl x0 (List.mem_cons_self ..)
  obtain ⟨t, ht⟩ : ∃ t, t = Tr.ref (Tr.node f (Tr.behind (Tr.shared (x0 :: x1 :: r)) (x0 :: x1 :: r))) := ⟨_, rfl⟩
  rw [← hbeh] at HRE
  rw [← ht] at HRE ⊢
  rw [hbeh] at HRE
  clear ht hnode hall hbeh hr hfit hap hsh hpre hpt h16 hR hbr0
  have HDL := hid hdl
  clear hdl
  generalize Tr.shared (x0 :: x1 :: r) = sh at *
  rw [← HX0.out] at HCM
  clear HX0
  generalize x0 :: x1 :: r = L at *
  generalize hn : sh.length = n at *
  have HN := hid hn
  clear hn
  have i0 : ¬ (L.length : Int) = 0 := by omega
  have i1 : ¬ (L.length : Int) = 1 := by omega
  have i2 : (0 : Int) < (n : Int) := by omega
  have i3 : (n : Int) ≤ (cd0 : Int) := by omega
  have i4 : (0 : Int) < (L.length : Int) := by omega
  have hb1 : b < w.heap.size + 2 := by omega
  go_enter Try.func55, Try.ntmps55
  go_wp2_with fail
  have HB0 := hid (((Below.refl w.heap.size w).alloc (Nat.le_refl _) (.cells #[.bool false, .string ⟨#[]⟩, .slice none 0 0] 24)).alloc (by simp) (.cells #[.bool true, .string ⟨#[]⟩, .slice none 0 0] 24))
  refine (HCM.out _ HB0.out).mono ?_
  rintro e' w1 ⟨rfl, b1⟩
  have HB1 : Hid (Below w.heap.size w w1) := HB0.out.trans (b1.mono HB0.out.size)
  have hX1 := old_block2 b1
  have hR1 := kept_block b1 (block_alloc (heap_alloc_new w _) (O' := .cells #[.bool true, .string ⟨#[]⟩, .slice none 0 0] 24))
  have hsz1 : w.heap.size + 2 ≤ w1.heap.size := Nat.succ_le_of_lt (Array.getElem?_eq_some_iff.1 hX1).1
  clear b1 HB0 HCM
  go_wp2_with fail
  go_loopw [6, 7] (fun v i wr => ∃ (k : Nat) (ps : List (Value × ByteArray)), i = .int .i64 k ∧ k ≤ L.length ∧ Hid (EOwn wr w1.heap.size v ps ∧ EntsOf (fun _ => True) w.heap.size wr ps ((L.take k).map (fun e => (⟨e.dig.drop n, e.val⟩ : Tr.Ent))) ∧ Below w1.heap.size w1 wr)) (fun _ i _ => L.length - (intOf i).toNat)
  case atStart => exact ⟨0, [], rfl, Nat.zero_le _, eown_nil _ _, by rw [List.take_zero]; exact entsR_nil _ _ _, Below.refl _ _⟩
  case round =>
    obtain ⟨k, ps, rfl, hk, HH⟩ := hrel
    obtain ⟨av, cv, hv, _⟩ := eown_shape HH.out.1
    subst hv
    have hws : w1.heap.size ≤ wr.heap.size := HH.out.2.2.size
    by_cases hlt : k < L.length
    · obtain ⟨b', off', ak, cd, hab, hbk, g0, g1, hbr⟩ := HR.out k hlt
      simp only [Option.some.injEq, Addr.mk.injEq, and_true] at hab
      obtain ⟨rfl, rfl⟩ := hab
      have HBW : Hid (Below w.heap.size w wr) := HB1.out.trans (HH.out.2.2.mono HB1.out.size)
      have f0 := (HBW.out.cell (p := ⟨b, off + k * 2, none⟩) hb).trans g0
      have f1 := (HBW.out.cell (p := ⟨b, off + k * 2 + 1, none⟩) hb).trans g1
      have hbw : b < wr.heap.size := by omega
      have j1 : (0 : Int) ≤ (k : Int) := by omega
      have j2 : (k : Int) < (L.length : Int) := by omega
      have hbX := (hbr.frame HBW.out).brdX (P := fun _ => True) (fun _ _ => trivial)
      have HLP : Hid (ps.length ≤ 1000000) := by
        rw [Hid, HH.out.2.1.1, List.length_map, List.length_take]; omega
      have HM := hid (map_take_succ L k n hlt)
      have hnk := HALL.out k hlt
      have hdk := HDL.out _ (List.getElem_mem hlt)
      clear g0 g1 hbr
      generalize L[k] = e at *
      obtain ⟨dig, val⟩ := e
      dsimp only at *
      rcases hbX with ⟨_, h0⟩ | ⟨b2, off2, cap2, hv2, hcap2, hlt2, hne2, hcell2⟩
      · rw [h0] at hnk; simp at hnk; omega
      have hv2' := hv2
      simp only [Value.slice.injEq] at hv2
      obtain ⟨rfl, _, hcc⟩ := hv2
      subst hcc
      have HDX := hid (fun a' ha => brdX_drop (P := fun _ => True) (n := n) (a' := a') (.inr ⟨b2, off2, cd, rfl, hcap2, hlt2, hne2, hcell2⟩) hnk ha)
      have HO1 : Hid (EOwn wr.drew w1.heap.size (.slice av ps.length cv) ps) := HH.out.1
      obtain ⟨V, hV⟩ : ∃ V : ByteArray, V = ⟨val.toArray⟩ := ⟨_, rfl⟩
      have HVV : Hid (V.data.toList = val) := by rw [Hid, hV]
      rw [← hV] at f1
      obtain ⟨DL, hDL⟩ : ∃ DL, DL = dig.length := ⟨_, rfl⟩
      rw [← hDL] at f0 hnk HDX hcap2 hdk
      have j3 : (0 : Int) ≤ (n : Int) := by omega
      have j4 : (n : Int) ≤ (DL : Int) := by omega
      have j5 : (n : Int) ≤ (cd : Int) := by omega
      clear hV hcell2 hDL hv2'
      have hb1 : b < w1.heap.size := by omega
      by_cases hc1 : cd = n
      · have HDX1 := hid (HDX.out _ (if_pos hc1).symm)
        clear HDX
        have hc2 := hc1.symm
        subst hc2
        have hDn : n = DL := by omega
        subst hDn
        clear hc1
        simp only [Nat.sub_self] at HDX1
        go_wp2_with fail
        go_region_held3 (fun w' => w'.cell? ⟨b, off + k * 2, none⟩ = some (.slice (some ⟨b2, off2, none⟩) n n) ∧ w'.cell? ⟨b, off + k * 2 + 1, none⟩ = some (.string V)) (go_keep)
          ((go_loud (refine step_push_ent (wr := wr.drew) rfl (.tmp 50) (.tmp 64) rfl (.slice (some ⟨b2, off2, none⟩) 0 0) V rfl wr.heap.size rfl rfl rfl HO1.out hws HLP.out ?_); intro v' w' ho' hb' hk' hn' hz'; have HO' := hid ho'; have HB' := hid hb'; have y0 := (hb'.cell (p := ⟨b, off + k * 2, none⟩) hb1).trans f0; have y1 := (hb'.cell (p := ⟨b, off + k * 2 + 1, none⟩) hb1).trans f1; clear ho' hb' hk' hn' hz'))
        all_goals go_wp2_with fail
        all_goals
          have hkeep : ∀ x, x < w.heap.size → True → w'.heap[x]? = wr.heap[x]? := fun x hx _ => HB'.out.block x (Nat.lt_of_lt_of_le hx HB1.out.size)
          exact ⟨⟨k + 1, _, by go_num, by omega, HO'.out, by
            rw [HM.out]
            exact ents_snoc (ents_turn HH.out.2.1 (Nat.le_refl _) (fun _ _ h => h) hkeep) HVV.out (brdX_turn HDX1.out (Nat.le_refl _) (fun _ _ h => h) hkeep), HH.out.2.2.trans (below_undrew HB'.out)⟩, by simp [intOf]; omega⟩
      · have HDX1 := hid (HDX.out _ (if_neg hc1).symm)
        clear HDX
        go_wp2_with fail
        go_region_held3 (fun w' => w'.cell? ⟨b, off + k * 2, none⟩ = some (.slice (some ⟨b2, off2, none⟩) DL cd) ∧ w'.cell? ⟨b, off + k * 2 + 1, none⟩ = some (.string V)) (go_keep)
          ((go_loud (refine step_push_ent (wr := wr.drew) rfl (.tmp 50) (.tmp 64) rfl (.slice (some ⟨b2, off2 + n, none⟩) (DL - n) (cd - n)) V rfl wr.heap.size rfl rfl rfl HO1.out hws HLP.out ?_); intro v' w' ho' hb' hk' hn' hz'; have HO' := hid ho'; have HB' := hid hb'; have y0 := (hb'.cell (p := ⟨b, off + k * 2, none⟩) hb1).trans f0; have y1 := (hb'.cell (p := ⟨b, off + k * 2 + 1, none⟩) hb1).trans f1; clear ho' hb' hk' hn' hz'))
        all_goals go_wp2_with fail
        all_goals
          have hkeep : ∀ x, x < w.heap.size → True → w'.heap[x]? = wr.heap[x]? := fun x hx _ => HB'.out.block x (Nat.lt_of_lt_of_le hx HB1.out.size)
          exact ⟨⟨k + 1, _, by go_num, by omega, HO'.out, by
            rw [HM.out]
            exact ents_snoc (ents_turn HH.out.2.1 (Nat.le_refl _) (fun _ _ h => h) hkeep) HVV.out (brdX_turn HDX1.out (Nat.le_refl _) (fun _ _ h => h) hkeep), HH.out.2.2.trans (below_undrew HB'.out)⟩, by simp [intOf]; omega⟩
    · obtain rfl : k = L.length := by omega
      have j2 : ¬ (L.length : Int) < (L.length : Int) := by omega
      have HE := hid HH.out.2.1
      rw [List.take_length] at HE
      have HO := hid HH.out.1
      have HBR := hid HH.out.2.2
      have HBW : Hid (Below w.heap.size w wr) := HB1.out.trans (HBR.out.mono HB1.out.size)
      have HER := hid (erd_of HO.out HE.out HBW.out.size)
      have HPL : Hid (ps.length = (L.map (fun e => (⟨e.dig.drop n, e.val⟩ : Tr.Ent))).length) := HE.out.1
      have hXr := kept_block HBR.out hX1
      have hRr := kept_block HBR.out hR1
      have e0r := (HBW.out.cell (p := ⟨b, off, none⟩) hb).trans e0
      have hszr : w.heap.size + 2 ≤ wr.heap.size := by omega
      have hbr2 : b < wr.heap.size := by omega
      clear HH HE HO hX1 hR1 HALL HDL HR hlt e0
      go_wp2_with fail
      refine (HPA.out _ HBW.out).mono ?_
      rintro e' w3 ⟨rfl, b3⟩
      have HB3 : Hid (Below w.heap.size w w3) := HBW.out.trans (b3.mono HBW.out.size)
      have HER3 := hid ((HER.out.later b3).wider b3.size)
      have hX3 := kept_block b3 hXr
      have hR3 := kept_block b3 hRr
      have hsz3 : w.heap.size + 2 ≤ w3.heap.size := Nat.le_trans hszr b3.size
      obtain ⟨P, hP⟩ : ∃ P : ByteArray, P = ⟨(Tr.path sh false).toArray⟩ := ⟨_, rfl⟩
      have HP : Hid (P.data.toList = Tr.path sh false) := by rw [Hid, hP]
      rw [← hP]
      have HRC := hid (HRE.out av cv w3 HER3.out)
      rw [← HPL.out] at HRC
      clear hP b3 hXr hRr e0r HER HRE HPA
      go_wp2_with fail
      refine HRC.out.mono ?_
      rintro e' w4 ⟨v4, rfl, o4, b4⟩
      obtain ⟨at_, ct, rfl⟩ := ow_shape o4
      have HB4 : Hid (Below w.heap.size w w4) := HB3.out.trans (b4.mono HB3.out.size)
      have hX4 := kept_block b4 hX3
      have hR4 := kept_block b4 hR3
      have HO4 := hid o4
      have hsz4 : w3.heap.size ≤ w4.heap.size := b4.size
      clear o4 b4 hX3 hR3 HRC
      go_upto_region 17 with fail
      have hS : ExS (w.heap.size + 1) w.heap.size w4.heap.size (.bool t.list) (.string ⟨t.bytes.toArray⟩) (.slice at_ t.items.length ct) (w4.alloc (.cells #[.bool t.list, .string ⟨t.bytes.toArray⟩, .slice at_ t.items.length ct] 24)).drew := ⟨block_alloc hX4, block_alloc hR4, heap_alloc_new w4 _⟩
      have HB45 : Hid (Below w4.heap.size w4 (w4.alloc (.cells #[.bool t.list, .string ⟨t.bytes.toArray⟩, .slice at_ t.items.length ct] 24))) := (Below.refl _ _).alloc (Nat.le_refl _) _
      have HB05 : Hid (Below w.heap.size w (w4.alloc (.cells #[.bool t.list, .string ⟨t.bytes.toArray⟩, .slice at_ t.items.length ct] 24))) := HB4.out.trans (HB45.out.mono HB4.out.size)
      have HOT := hid (own_frame (E := 24) _ _ _ _ _ (fun k _ hk => HB45.out.block k hk) HO4.out)
      have hT4 : w4.heap.size ≤ (w4.alloc (.cells #[.bool t.list, .string ⟨t.bytes.toArray⟩, .slice at_ t.items.length ct] 24)).heap.size := HB45.out.size
      obtain ⟨w5, hw5⟩ : ∃ w5, w5 = w4.alloc (.cells #[.bool t.list, .string ⟨t.bytes.toArray⟩, .slice at_ t.items.length ct] 24) := ⟨_, rfl⟩
      rw [← hw5] at hS HB05 HOT hT4 ⊢
      clear hw5 HB45 HO4 hX4 hR4
      have hT2 : w.heap.size + 2 ≤ w3.heap.size := hsz3
      have hT3 := hsz4
      obtain ⟨lo, hlo⟩ : ∃ lo, lo = w3.heap.size := ⟨_, rfl⟩
      obtain ⟨hi, hhi⟩ : ∃ hi, hi = w4.heap.size := ⟨_, rfl⟩
      rw [← hlo] at HOT hT2 hT3
      rw [← hhi] at HOT hT3 hT4 hS
      have HHI := hid hhi
      rw [← hhi]
      clear hlo hhi hsz3 hsz4
      refine wp_region_L (ExS (w.heap.size + 1) w.heap.size hi (.bool t.list) (.string ⟨t.bytes.toArray⟩) (.slice at_ t.items.length ct)) 8 (by kernel_rfl) ?_
      refine takeL (i := 0) (v := .pointer (some ⟨w.heap.size + 1, 2, none⟩)) #[true, false, false, false, false, false, false, false, false] 75 rfl (by kernel_rfl) (by kernel_rfl) (by kernel_rfl) (by kernel_rfl) (by kernel_rfl) (fun _ _ _ h => h) hS (Or.inl ⟨by kernel_rfl, ?_⟩) (by kernel_rfl) rfl ?_
      · (intro w' hSw; go_simp)
      try simp only [Act.put, List.setIfInBounds_toArray, List.set_cons_zero, List.set_cons_succ]
      refine takeL (i := 1) (v := .slice none 0 0) #[true, true, false, false, false, false, false, false, false] 76 rfl (by kernel_rfl) (by kernel_rfl) (by kernel_rfl) (by kernel_rfl) (by kernel_rfl) (fun _ _ _ h => h) hS (Or.inl ⟨by kernel_rfl, ?_⟩) (by kernel_rfl) rfl ?_
      · (intro w' hSw; have z0 := (cell_of_row w' _ 2 _ _ _ hSw.1).trans rfl; go_simp)
      try simp only [Act.put, List.setIfInBounds_toArray, List.set_cons_zero, List.set_cons_succ]
      refine takeL (i := 2) (v := .string P) #[true, true, true, false, false, false, false, false, false] 77 rfl (by kernel_rfl) (by kernel_rfl) (by kernel_rfl) (by kernel_rfl) (by kernel_rfl) (fun _ _ _ h => h) hS (Or.inl ⟨by kernel_rfl, ?_⟩) (by kernel_rfl) rfl ?_
      · (intro w' hSw; go_simp)
      try simp only [Act.put, List.setIfInBounds_toArray, List.set_cons_zero, List.set_cons_succ]
      refine takeL (i := 4) (v := .agg #[.bool t.list, .string ⟨t.bytes.toArray⟩, .slice at_ t.items.length ct]) #[true, true, true, false, true, false, false, false, false] 79 rfl (by kernel_rfl) (by kernel_rfl) (by kernel_rfl) (by kernel_rfl) (by kernel_rfl) (fun _ _ _ h => h) hS (Or.inl ⟨by kernel_rfl, ?_⟩) (by kernel_rfl) rfl ?_
      · (intro w' hSw; have z0 := (cell_of_row w' _ 0 _ _ _ hSw.2.2).trans rfl; have z1 := (cell_of_row w' _ 1 _ _ _ hSw.2.2).trans rfl; have z2 := (cell_of_row w' _ 2 _ _ _ hSw.2.2).trans rfl; go_simp)
      try simp only [Act.put, List.setIfInBounds_toArray, List.set_cons_zero, List.set_cons_succ]
      refine wpAnyL_ready (rs := [3]) (by kernel_rfl) (by simp) ?_
      refine AllReadyL.cons rfl (fun K hK => ?_) AllReadyL.nil
      go_simp
      refine (HBI.out _ _).mono ?_
      rintro e' w6 ⟨rfl, b6⟩
      have hS6 := exS_later hS b6
      have HB6 : Hid (Below w5.heap.size w5 w6) := below_undrew b6
      clear b6
      refine hK.out _ _ hS6 ?_
      clear hK K
      try simp only [List.setIfInBounds_toArray, List.set_cons_zero, List.set_cons_succ]
      refine wpAnyL_ready (rs := [5]) (by kernel_rfl) (by simp) ?_
      refine AllReadyL.cons rfl (fun K hK => ?_) AllReadyL.nil
      go_simp
      refine hK.out _ _ (exS_later hS6 ((Below.refl _ _).alloc (Nat.le_refl _) _)) ?_
      clear hK K
      try simp only [List.setIfInBounds_toArray, List.set_cons_zero, List.set_cons_succ]
      refine wpAnyL_ready (rs := [6]) (by kernel_rfl) (by simp) ?_
      refine AllReadyL.cons rfl (fun K hK => ?_) AllReadyL.nil
      have HOT6 := hid (own_frame (E := 24) _ _ _ _ _ (fun k _ hk => HB6.out.block k (Nat.lt_of_lt_of_le hk hT4)) HOT.out)
      refine step_two_items (n := f + 1) (base := w.heap.size + 2) (lo1 := w.heap.size + 2) (hi1 := w.heap.size + 2) (lo2 := lo) (hi2 := hi) rfl (.tmp 76) (.tmp 80) rfl (.bool false) (.string P) (.slice none 0 0) (.bool t.list) (.string ⟨t.bytes.toArray⟩) (.slice at_ t.items.length ct) (Tr.itB (Tr.path sh false)) t w6.heap.size rfl rfl rfl (ow_bytes _ _ _ _ _ _ HP.out) HOT6.out (Nat.le_refl _) (Nat.le_refl _) hT2 hT3 (Nat.le_trans hT4 HB6.out.size) (by intro u hu; simp at hu; rcases hu with rfl | rfl | rfl | rfl | rfl | rfl <;> rfl) ?_
      intro a7 c7 w7 o7 b7
      have hS7 := exS_later hS6 b7
      have HO7 := hid o7
      have HB7 : Hid (Below w5.heap.size w5 w7) := HB6.out.trans (b7.mono HB6.out.size)
      clear o7 b7
      refine hK.out _ _ hS7 ?_
      clear hK K
      refine takeL (i := 7) (v := .pointer (some ⟨w.heap.size + 1, 2, none⟩)) #[true, true, true, true, true, true, true, true, false] 82 rfl (by kernel_rfl) (by kernel_rfl) (by kernel_rfl) (by kernel_rfl) (by kernel_rfl) (fun _ _ _ h => h) hS7 (Or.inl ⟨by kernel_rfl, ?_⟩) (by kernel_rfl) rfl ?_
      · (intro w' hSw; go_simp)
      try simp only [Act.put]
      have q2 := (cell_of_row _ _ 2 _ _ _ hS7.1).trans rfl
      have hf2 := frozen_of_row _ _ 2 _ _ hS7.1
      refine wpAnyL_ready (rs := [8]) (by kernel_rfl) (by simp) ?_
      refine AllReadyL.last rfl (fun K hK => ?_)
      go_simp
      refine hK.out _ _ ?_
      clear hK K
      try simp only [List.setIfInBounds_toArray, List.set_cons_zero, List.set_cons_succ]
      refine wpAny_done (by kernel_rfl) ?_ _
      have hX6 := heap_setCell_same w7 (w.heap.size + 1) 2 _ 24 (.slice a7 2 c7) hS7.1
      have hR6 := (Below.heap_setCell w7 ⟨w.heap.size + 1, 2, none⟩ (.slice a7 2 c7) w.heap.size (by simp)).trans hS7.2.1
      have HO9 : Hid (OwL (w7.setCell ⟨w.heap.size + 1, 2, none⟩ (.slice a7 2 c7)) (f + 1) (w.heap.size + 2) w7.heap.size (.slice a7 2 c7) [Tr.itB (Tr.path sh false), t]) := by
        have h := own_frame (E := 24) (w := w7) (w' := w7.setCell ⟨w.heap.size + 1, 2, none⟩ (.slice a7 2 c7)) _ _ _ _ _ (fun k hk _ => Below.heap_setCell _ _ _ _ (by simp; omega)) (ow_list HO7.out)
        obtain ⟨sl, hv, hl⟩ := h
        simp only [Value.agg.injEq] at hv
        have : sl = .slice a7 2 c7 := by
          have := congrArg (fun z : Array Value => z[2]?) hv
          simpa using this.symm
        subst this
        exact hl
      have HB9 : Hid (Below w.heap.size w (w7.setCell ⟨w.heap.size + 1, 2, none⟩ (.slice a7 2 c7))) := (HB05.out.trans (HB7.out.mono HB05.out.size)).setCell (p := ⟨w.heap.size + 1, 2, none⟩) (Nat.le_succ _) _
      have HZ9 : Hid ((w7.setCell ⟨w.heap.size + 1, 2, none⟩ (.slice a7 2 c7)).heap.size = w7.heap.size) := by simp [Hid, World.setCell]
      generalize w7.setCell ⟨w.heap.size + 1, 2, none⟩ (.slice a7 2 c7) = w9 at *
      have x0 := (cell_of_row _ _ 0 _ _ _ hX6).trans rfl
      have x1 := (cell_of_row _ _ 1 _ _ _ hX6).trans rfl
      have x2 := (cell_of_row _ _ 2 _ _ _ hX6).trans rfl
      have r0 := (cell_of_row _ _ 0 _ _ _ hR6).trans rfl
      have r1 := (cell_of_row _ _ 1 _ _ _ hR6).trans rfl
      have r2 := (cell_of_row _ _ 2 _ _ _ hR6).trans rfl
      have g0 := frozen_of_row _ _ 0 _ _ hR6
      have g1 := frozen_of_row _ _ 1 _ _ hR6
      have g2 := frozen_of_row _ _ 2 _ _ hR6
      clear q2 hf2 hS7 hS6 hS
      go_wp2_with fail
      obtain ⟨z0, z1, z2⟩ := set3 hR6 (.bool true) (.string ⟨#[]⟩) (.slice a7 2 c7)
      refine bodyPost_ret (v := .agg #[.bool true, .string ⟨#[]⟩, .slice a7 2 c7]) (by simp [results, Try.results55, go_sem, z0, z1, z2]) rfl ⟨_, rfl, ?_, three_below HB9.out (Nat.le_refl _) _ _ _⟩
      have hsz : (((w9.setCell ⟨w.heap.size, 0, none⟩ (.bool true)).setCell ⟨w.heap.size, 1, none⟩ (.string ⟨#[]⟩)).setCell ⟨w.heap.size, 2, none⟩ (.slice a7 2 c7)).heap.size = w9.heap.size := by simp [World.setCell]
      rw [hsz]
      have ho := own_widen (ow_list HO9.out) (lo' := w.heap.size + 1) (hi' := w9.heap.size) (by omega) (Nat.le_of_eq HZ9.out.symm)
      exact own_widen (own_frame _ _ _ _ _ (fun k hk _ => by rw [setCell_block _ _ _ _ (by show k ≠ w.heap.size; omega), setCell_block _ _ _ _ (by show k ≠ w.heap.size; omega), setCell_block _ _ _ _ (by show k ≠ w.heap.size; omega)]) ho) (Nat.le_succ _) (Nat.le_refl _)
end Go.Proofs.Ytbmohenjphmlgaa
