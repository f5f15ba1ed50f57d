/- The walk of wellFormed: an item has but the fields that its kind uses, and so has all within it, as 'pure' says. -/
import Derived.Test.YtbmohenjphmlgaaWell
namespace Go.Proofs.Ytbmohenjphmlgaa
open Go.RowKit
set_option maxRecDepth 100000

/-- What stands behind a round of wellFormed's outer loop. -/
def Outer (t : Itm) (n : Nat) (W1 : World) (k : Nat) (v : Value) (wr : World) : Prop :=
  ∃ ls : List (List Itm), Stk wr W1.heap.size n v ls ∧ Below W1.heap.size W1 wr ∧ Itm.cntS ls = k ∧ k ≤ 1000000000 ∧ (∀ l ∈ ls, l ≠ []) ∧ Itm.pure t = ls.all (·.all Itm.pure)

def Inner (t : Itm) (n : Nat) (W1 : World) (l : List Itm) (M j : Nat) (v : Value) (wr : World) : Prop :=
  ∃ ls : List (List Itm), Stk wr W1.heap.size n v ls ∧ Below W1.heap.size W1 wr ∧ Itm.cntS ls + Itm.cntL (l.drop j) + j ≤ M ∧ M ≤ 1000000000 ∧ (∀ l ∈ ls, l ≠ []) ∧ Itm.pure t = (ls.all (·.all Itm.pure) && (l.drop j).all Itm.pure)

theorem stk_start (w : World) (n : Nat) (t : Itm) (a : Option Addr) (cap : Nat) (X Y : Obj) (hX : X = .cells #[.bool t.list, .string ⟨t.bytes.toArray⟩, .slice a t.items.length cap] 24) (hY : Y = X)
    (hrep : Rep w.heap.size w n (.agg #[.bool t.list, .string ⟨t.bytes.toArray⟩, .slice a t.items.length cap]) t) :
    Stk (((w.alloc X).alloc Y).alloc (.cells #[.slice (some ⟨w.heap.size + 1, 0, none⟩) 1 1] 22)) ((w.alloc X).alloc Y).heap.size n (.slice (some ⟨w.heap.size + 1 + 1, 0, none⟩) 1 1) [[t]] := by
  subst hY hX
  have hsz : ((w.alloc (.cells #[.bool t.list, .string ⟨t.bytes.toArray⟩, .slice a t.items.length cap] 24)).alloc (.cells #[.bool t.list, .string ⟨t.bytes.toArray⟩, .slice a t.items.length cap] 24)).heap.size = w.heap.size + 1 + 1 := by simp
  generalize hW : (w.alloc (.cells #[.bool t.list, .string ⟨t.bytes.toArray⟩, .slice a t.items.length cap] 24)).alloc (.cells #[.bool t.list, .string ⟨t.bytes.toArray⟩, .slice a t.items.length cap] 24) = W1 at *
  have hbel : Below w.heap.size w W1 := by
    rw [← hW]; exact (((Below.refl _ _).alloc (Nat.le_refl _) _).alloc (by simp) _)
  have hblk : W1.heap[w.heap.size + 1]? = some (.cells #[.bool t.list, .string ⟨t.bytes.toArray⟩, .slice a t.items.length cap] 24) := by
    rw [← hW]
    have := heap_alloc_new (w.alloc (.cells #[.bool t.list, .string ⟨t.bytes.toArray⟩, .slice a t.items.length cap] 24)) (.cells #[.bool t.list, .string ⟨t.bytes.toArray⟩, .slice a t.items.length cap] 24)
    simpa using this
  have hl := World.ownsRow_lit (base := W1.heap.size) (e := 22) (size := 1) W1 #[.slice (some ⟨w.heap.size + 1, 0, none⟩) 1 1] 1 (Nat.le_refl _) (by unfold maxLen; omega) rfl
  rw [hsz] at hl ⊢
  refine ⟨[.slice (some ⟨w.heap.size + 1, 0, none⟩) 1 1], hl, ?_⟩
  intro i hi
  have hi0 : i = 0 := by simp at hi; omega
  subst hi0
  refine ⟨some ⟨w.heap.size + 1, 0, none⟩, 1, rfl, by unfold maxLen; simp, ?_⟩
  intro j hj
  have hj0 : j = 0 := by simp at hj; omega
  subst hj0
  have hold : ∀ o, (W1.alloc (.cells #[.slice (some ⟨w.heap.size + 1, 0, none⟩) 1 1] 22)).cell? ⟨w.heap.size + 1, o, none⟩ = #[Value.bool t.list, .string ⟨t.bytes.toArray⟩, .slice a t.items.length cap][o]? := by
    intro o
    rw [((Below.refl W1.heap.size W1).alloc (Nat.le_refl _) _).cell (p := ⟨w.heap.size + 1, o, none⟩) (by show w.heap.size + 1 < _; omega), cell_of_row _ _ o _ _ _ hblk]
  refine ⟨w.heap.size + 1, 0, _, _, _, rfl, by omega, hold 0, hold 1, hold 2, ?_⟩
  refine rep_wider (B := w.heap.size) (by omega) _ _ _ (rep_frame (w := w) ?_ _ _ _ hrep)
  exact hbel.trans ((Below.refl _ _).alloc (by omega) _)

theorem nil_or_snoc {α : Type} (ls : List α) : ls = [] ∨ ∃ ls' l, ls = ls' ++ [l] := by
  rcases List.eq_nil_or_concat ls with h | ⟨a, b, h⟩
  · exact .inl h
  · exact .inr ⟨a, b, by rw [h]; simp⟩

theorem rep_back {B : Nat} {w w' : World} (hb : Below B w w') : ∀ (n : Nat) (v : Value) (t : Itm), Rep B w' n v t → Rep B w n v t := by
  intro n
  induction n with
  | zero => intro v t h; exact h
  | succ n ih =>
    intro v t h
    obtain ⟨a, cap, hv, hm, h⟩ := h
    refine ⟨a, cap, hv, hm, fun i hi => ?_⟩
    obtain ⟨b, off, c0, c1, c2, ha, hlt, e0, e1, e2, hr⟩ := h i hi
    exact ⟨b, off, c0, c1, c2, ha, hlt, by rw [← hb.cell hlt]; exact e0, by rw [← hb.cell hlt]; exact e1, by rw [← hb.cell hlt]; exact e2, ih _ _ hr⟩

theorem repL_back {B : Nat} {w w' : World} {n : Nat} {sl : Value} {l : List Itm} (h : RepL B w' n sl l) (hb : Below B w w') : RepL B w n sl l := by
  obtain ⟨a, cap, hv, hm, hk⟩ := h
  refine ⟨a, cap, hv, hm, fun i hi => ?_⟩
  obtain ⟨b, off, c0, c1, c2, ha, hlt, e0, e1, e2, hr⟩ := hk i hi
  exact ⟨b, off, c0, c1, c2, ha, hlt, by rw [← hb.cell hlt]; exact e0, by rw [← hb.cell hlt]; exact e1, by rw [← hb.cell hlt]; exact e2, rep_back hb _ _ _ hr⟩

theorem drop_at (l : List Itm) (j : Nat) (h : j < l.length) : l.drop j = l[j] :: l.drop (j + 1) := by
  rw [List.drop_eq_getElem_cons h]

set_option maxHeartbeats 1600000 in
theorem well_any (n : Nat) (t : Itm) (w : World) (a : Option Addr) (cap : Nat) (hc : Itm.cnt t ≤ 1000000000) (hrep : Rep w.heap.size w (n + 1) (.agg #[.bool t.list, .string ⟨t.bytes.toArray⟩, .slice a t.items.length cap]) t) :
    Calls Try.prog 64 #[.agg #[.bool t.list, .string ⟨t.bytes.toArray⟩, .slice a t.items.length cap]] w fun e w' => e = .returned (.bool (Itm.pure t)) ∧ Below w.heap.size w w' := by
  have HR := hid hrep
  clear hrep
  go_enter Try.func64, Try.ntmps64
  go_wp2_with fail
  have HS := hid (stk_start w (n + 1) t a cap _ _ rfl rfl HR.out)
  go_loopg [3] (Itm.cnt t) (fun k v wr => Outer t (n + 1) ((w.alloc (.cells #[.bool t.list, .string ⟨t.bytes.toArray⟩, .slice a t.items.length cap] 24)).alloc (.cells #[.bool t.list, .string ⟨t.bytes.toArray⟩, .slice a t.items.length cap] 24)) k v wr)
  case atStart => exact ⟨[[t]], HS.out, (Below.refl _ _).alloc (Nat.le_refl _) _, by simp [Itm.cntS, Itm.cntL], hc, by simp, by simp⟩
  case round =>
    obtain ⟨ls, hstk, hbel, hk, hkb, hne, hpure⟩ := hrel
    have HBW : Hid (Below w.heap.size w wr) := by
      refine ((((Below.refl _ _).alloc (Nat.le_refl _) _).alloc (by simp) _)).trans (hbel.mono ?_)
      simp; omega
    have HW1 : Hid (w.heap.size + 1 + 1 ≤ wr.heap.size) := by have := hbel.size; simp at this; exact this
    rcases nil_or_snoc ls with rfl | ⟨ls', l, rfl⟩
    · obtain ⟨a3, c3, rfl⟩ := stk_shape hstk
      have HP := hid hpure
      clear hstk hbel hpure hk hkb hne
      go_wp2_with fail
      go_ret
      exact ⟨by rw [HP.out]; rfl, HBW.out⟩
    · obtain ⟨xs, ho, _⟩ := id hstk
      obtain ⟨g, c3, rfl, hc3, hc3m⟩ : ∃ g c3, u3 = .slice (some ⟨g, 0, none⟩) (ls'.length + 1) c3 ∧ ls'.length + 1 ≤ c3 ∧ c3 ≤ maxLen := by
        rcases ho.2 with ⟨_, h0⟩ | ⟨g, c3, cur, hv, _, _, h1, h2, _⟩
        · simp at h0
        · exact ⟨g, c3, by simpa using hv, by simpa using h1, h2⟩
      obtain ⟨hpop, sl, hcell, hsl⟩ := stk_pop hstk rfl
      obtain ⟨a5, c5, rfl, hm5, _⟩ := id hsl
      have hlb : ls'.length ≤ 1000000000 := by
        have := Itm.cntS_len _ hne
        rw [List.length_append] at this
        omega
      have hgl : g < wr.heap.size := (ho.lt g rfl).2
      have HL1 := hid (repL_back hsl hbel)
      have hlne : l ≠ [] := hne l (by simp)
      have HI : Hid (Inner t (n + 1) ((w.alloc (.cells #[.bool t.list, .string ⟨t.bytes.toArray⟩, .slice a t.items.length cap] 24)).alloc (.cells #[.bool t.list, .string ⟨t.bytes.toArray⟩, .slice a t.items.length cap] 24)) l gk 0 (.slice (some ⟨g, 0, none⟩) ls'.length c3) wr) := by
        refine ⟨ls', hpop, hbel, ?_, hkb, fun x hx => hne x (by simp [hx]), ?_⟩
        · rw [Itm.cntS_append, Itm.cntS_one] at hk
          simp; omega
        · rw [hpure]; simp
      have HLN := hid hlne
      obtain ⟨M, HM⟩ : ∃ M, Hid (M = gk) := ⟨gk, rfl⟩
      rw [← HM.out] at HI
      clear hstk hbel hpure hk hkb hne hpop hsl ho hlne
      unfold maxLen at hm5 hc3m
      go_wp2_with fail
      go_loopg [3, 26] (l.length) (fun k v i wi => ∃ j : Nat, i = .int .i64 j ∧ j ≤ l.length ∧ k = l.length - j ∧ Hid (Inner t (n + 1) ((w.alloc (.cells #[.bool t.list, .string ⟨t.bytes.toArray⟩, .slice a t.items.length cap] 24)).alloc (.cells #[.bool t.list, .string ⟨t.bytes.toArray⟩, .slice a t.items.length cap] 24)) l M j v wi))
      case atStart => exact ⟨0, rfl, Nat.zero_le _, by simp, HI.out⟩
      case round =>
        obtain ⟨j, rfl, hj, hkj, HN⟩ := hrel
        by_cases hlt : j < l.length
        · obtain ⟨a5', c5', e5, _, hk5⟩ := HL1.out
          cases e5
          obtain ⟨b, off, c0, c1, c2, rfl, hbl, e0, e1, e2, hr⟩ := hk5 j hlt
          obtain ⟨a2, cap2, rfl, rfl, rfl⟩ := rep_shape hr
          obtain ⟨ls2, hstk2, hbel2, hcnt2, hM2, hne2, hp2⟩ := HN.out
          have f0 := (hbel2.cell (p := ⟨b, off + j * 3, none⟩) hbl).trans e0
          have f1 := (hbel2.cell (p := ⟨b, off + j * 3 + 1, none⟩) hbl).trans e1
          have f2 := (hbel2.cell (p := ⟨b, off + j * 3 + 2, none⟩) hbl).trans e2
          have HRY := hid hr
          have HX := hid (And.intro hstk2 (And.intro hbel2 (And.intro hcnt2 (And.intro hM2 (And.intro hne2 hp2)))))
          have hls2 : ls2.length ≤ 1000000000 := by have := Itm.cntS_len _ hne2; omega
          have HBW2 : Hid (Below w.heap.size w wr) := by
            refine ((((Below.refl _ _).alloc (Nat.le_refl _) _).alloc (by simp) _)).trans (hbel2.mono ?_)
            simp; omega
          have HS1 := hid hbel2.size
          clear e0 e1 e2 hr hstk2 hbel2 hcnt2 hM2 hne2 hp2 hk5
          go_wp2_with fail
          refine (stray_any l[j] _ a2 cap2).mono ?_
          rintro e w1 ⟨rfl, hbel1⟩
          have HB1 : Hid (Below wr.heap.size wr w1) := ((Below.refl _ _).alloc (Nat.le_refl _) _).trans (hbel1.mono (by simp))
          obtain ⟨hcc, hff⟩ := bcell hbel1
          have hsz1 : wr.heap.size < w1.heap.size := by have := hbel1.size; simp at this; omega
          have HD := hid (drop_at l j hlt)
          cases hst : Itm.stray l[j] with
          | true =>
            have HST := hid hst
            clear hst hbel1
            go_wp2_with fail
            go_ret
            refine ⟨?_, HBW2.out.trans (HB1.out.mono HBW2.out.size)⟩
            have hp := HX.out.2.2.2.2.2
            rw [HD.out, List.all_cons, Itm.pure_stray l[j], HST.out] at hp
            rw [hp]; simp
          | false =>
            have HST := hid hst
            clear hst hbel1
            have HP : Hid (Itm.pure l[j] = l[j].items.all Itm.pure) := by rw [Itm.pure_stray, HST.out]; rfl
            by_cases h0 : 0 < l[j].items.length
            · have h0' : (0 : Int) < (l[j].items.length : Int) := by omega
              have HK : Hid (RepL ((w.alloc (.cells #[.bool t.list, .string ⟨t.bytes.toArray⟩, .slice a t.items.length cap] 24)).alloc (.cells #[.bool t.list, .string ⟨t.bytes.toArray⟩, .slice a t.items.length cap] 24)).heap.size w1 (n + 1) (.slice a2 l[j].items.length cap2) l[j].items) := by
                obtain ⟨sl, e, hkk⟩ := rep_list HRY.out
                simp at e
                subst e
                exact repL_frame (repL_frame (repL_more hkk) HX.out.2.1) (HB1.out.mono HS1.out)
              have HT : Hid (Stk w1 ((w.alloc (.cells #[.bool t.list, .string ⟨t.bytes.toArray⟩, .slice a t.items.length cap] 24)).alloc (.cells #[.bool t.list, .string ⟨t.bytes.toArray⟩, .slice a t.items.length cap] 24)).heap.size (n + 1) u3 ls2) := stk_frame HX.out.1 HB1.out HS1.out
              have HS2 := hid (Nat.le_trans HS1.out HB1.out.size)
              go_wp2_with (at_builtin; refine wpList_append_stack rfl (.tmp 36) (.tmp 39) rfl rfl rfl HT.out HK.out HS2.out hls2 ?_; intro v' w' hstk3 hbel3)
              go_roundg (l.length - (j + 1))
              case measure => omega
              case rel =>
                refine ⟨j + 1, by go_num, by omega, rfl, ls2 ++ [l[j].items], hstk3, (HX.out.2.1.trans (HB1.out.mono HS1.out)).trans hbel3, ?_, HX.out.2.2.2.1, ?_, ?_⟩
                · have h1 := HX.out.2.2.1
                  rw [HD.out, Itm.cntL_cons, Itm.cnt_eq] at h1
                  rw [Itm.cntS_append, Itm.cntS_one]
                  unfold Itm.cntL at h1 ⊢
                  omega
                · intro x hx
                  rcases List.mem_append.1 hx with hx | hx
                  · exact HX.out.2.2.2.2.1 x hx
                  · simp only [List.mem_singleton] at hx
                    subst hx
                    exact List.length_pos_iff.1 h0
                · rw [HX.out.2.2.2.2.2, HD.out, List.all_cons, HP.out, List.all_append]
                  simp [Bool.and_assoc]
            · have h0' : ¬ (0 : Int) < (l[j].items.length : Int) := by omega
              go_wp2_with fail
              go_roundg (l.length - (j + 1))
              case measure => omega
              case rel =>
                refine ⟨j + 1, by go_num, by omega, rfl, ls2, stk_frame HX.out.1 HB1.out HS1.out, HX.out.2.1.trans (HB1.out.mono HS1.out), ?_, HX.out.2.2.2.1, HX.out.2.2.2.2.1, ?_⟩
                · have h1 := HX.out.2.2.1
                  rw [HD.out, Itm.cntL_cons] at h1
                  have := Itm.cnt_pos l[j]
                  omega
                · have he : l[j].items = [] := List.eq_nil_of_length_eq_zero (by omega)
                  rw [HX.out.2.2.2.2.2, HD.out, List.all_cons, HP.out, he]
                  simp
        · go_wp2_with fail
          obtain ⟨ls2, hstk2, hbel2, hcnt2, hM2, hne2, hp2⟩ := HN.out
          have hjl : j = l.length := by omega
          subst hjl
          have hl0 : 0 < l.length := List.length_pos_iff.2 HLN.out
          go_roundg (Itm.cntS ls2)
          case measure => have := HM.out; omega
          case rel => exact ⟨ls2, hstk2, hbel2, rfl, by omega, hne2, by rw [hp2]; simp⟩
end Go.Proofs.Ytbmohenjphmlgaa
