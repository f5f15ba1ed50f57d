/- The walks of the statement Back's own helpers: sameItem, of two items that are the same; short. -/
import Derived.Test.YtplfjengfhijhaaItem2
namespace Go.Proofs.Ytplfjengfhijhaa
open Go.RowKit

set_option maxRecDepth 100000 in
set_option maxHeartbeats 1600000 in
theorem same_any (n : Nat) : ∀ (v v2 : Value) (t : Itm) (w : World), Rep w.heap.size w n v t → Rep w.heap.size w n v2 t →
    Calls Try.prog 19 #[v, v2] w fun e w' => e = .returned (.bool true) ∧ Below w.heap.size w w' := by
  induction n with
  | zero => intro v v2 t w h; exact h.elim
  | succ n ih =>
    intro v v2 t w hrep hrep2
    obtain ⟨a, cap, rfl, hm, hk1⟩ := hrep
    obtain ⟨a', cap', rfl, _, hk2⟩ := hrep2
    have H1 := hid hk1
    have H2 := hid hk2
    have IH := hid ih
    clear hk1 hk2 ih
    unfold maxLen at hm
    go_enter Try.func19, Try.ntmps19
    go_wp2_with fail
    go_loopw [5] (fun i wr => ∃ k : Nat, k ≤ t.items.length ∧ i = .int .i64 k ∧ Hid (Below (w.heap.size + 2) ((w.alloc (.cells #[.bool t.list, .string ⟨t.bytes.toArray⟩, .slice a t.items.length cap] 24)).alloc (.cells #[.bool t.list, .string ⟨t.bytes.toArray⟩, .slice a' t.items.length cap'] 24)) wr)) (fun i _ => t.items.length - (intOf i).toNat)
    case atStart => exact ⟨0, Nat.zero_le _, rfl, Below.refl _ _⟩
    case round =>
      obtain ⟨k, hk, rfl, HB⟩ := hrel
      have x2 : wr.cell? ⟨w.heap.size, 2, none⟩ = some (.slice a t.items.length cap) := by
        rw [HB.out.cell (p := ⟨w.heap.size, 2, none⟩) (by simp)]; simp
      have y2 : wr.cell? ⟨w.heap.size + 1, 2, none⟩ = some (.slice a' t.items.length cap') := by
        rw [HB.out.cell (p := ⟨w.heap.size + 1, 2, none⟩) (by simp)]; simp
      by_cases hlt : k < t.items.length
      · obtain ⟨b, off, c0, c1, c2, rfl, hbl, e0, e1, e2, hr⟩ := H1.out k hlt
        obtain ⟨b', off', d0, d1, d2, rfl, hbl', g0, g1, g2, hr'⟩ := H2.out k hlt
        obtain ⟨a2, cap2, rfl, rfl, rfl⟩ := rep_shape hr
        obtain ⟨a3, cap3, rfl, rfl, rfl⟩ := rep_shape hr'
        have hB0 : Below w.heap.size w wr := (((Below.refl _ _).alloc (Nat.le_refl _) _).alloc (by simp) _).trans (HB.out.mono (by omega))
        have f0 := (hB0.cell (p := ⟨b, off + k * 3, none⟩) hbl).trans e0
        have f1 := (hB0.cell (p := ⟨b, off + k * 3 + 1, none⟩) hbl).trans e1
        have f2 := (hB0.cell (p := ⟨b, off + k * 3 + 2, none⟩) hbl).trans e2
        have f0' := (hB0.cell (p := ⟨b', off' + k * 3, none⟩) hbl').trans g0
        have f1' := (hB0.cell (p := ⟨b', off' + k * 3 + 1, none⟩) hbl').trans g1
        have f2' := (hB0.cell (p := ⟨b', off' + k * 3 + 2, none⟩) hbl').trans g2
        have HR := hid hr
        have HR' := hid hr'
        have HB0 := hid hB0
        clear e0 e1 e2 g0 g1 g2 hr hr' hB0
        have HC : Hid (Calls Try.prog 19 #[.agg #[.bool t.items[k].list, .string ⟨t.items[k].bytes.toArray⟩, .slice a2 t.items[k].items.length cap2], .agg #[.bool t.items[k].list, .string ⟨t.items[k].bytes.toArray⟩, .slice a3 t.items[k].items.length cap3]] wr.drew fun e w' => e = .returned (.bool true) ∧ Below wr.heap.size wr w') :=
          (IH.out _ _ t.items[k] wr.drew (rep_in HR.out HB0.out.drew) (rep_in HR'.out HB0.out.drew)).mono fun e w' h => ⟨h.1, below_undrew h.2⟩
        go_wp2_with fail
        go_region_with (go_at_call 19; refine HC.out.mono ?_; rintro e w2 ⟨rfl, hbel⟩)
        all_goals (go_wp2_with fail; refine ⟨⟨k + 1, by omega, by go_num, HB.out.trans (hbel.mono (by have := HB.out.size; simp at this; omega))⟩, by simp [intOf]; omega⟩)
      · go_wp2_with fail
        go_ret
        exact ⟨rfl, (((Below.refl _ _).alloc (Nat.le_refl _) _).alloc (by simp) _).trans (HB.out.mono (by omega))⟩

set_option maxHeartbeats 400000 in
theorem short_any (s : ByteArray) (w : World) (hs : s.size ≤ maxLen) :
    Calls Try.prog 18 #[.string s, .int .i64 12] w fun e w' => ∃ r : ByteArray, e = .returned (.string r) ∧ r.size ≤ 12 ∧ w' = w := by
  unfold maxLen at hs
  by_cases h : 12 < s.size
  · have h' : (12 : Int) < (s.size : Int) := by omega
    go_enter Try.func18, Try.ntmps18
    go_wp2_with fail
    go_ret
    exact ⟨_, rfl, by simp; omega, rfl⟩
  · have h' : ¬ (12 : Int) < (s.size : Int) := by omega
    go_enter Try.func18, Try.ntmps18
    go_wp2_with fail
    go_ret
    exact ⟨_, rfl, by omega, rfl⟩

theorem rep_lift {B : Nat} {w : World} {v : Value} {t : Itm} {n : Nat} (m : Nat) (h : Rep B w n v t) : Rep B w (n + m) v t := by
  induction m with
  | zero => exact h
  | succ m ih => exact rep_more _ _ _ ih

/-- Two items that are the same, whatever levels each was read at. -/
theorem same_two (n m : Nat) (v v2 : Value) (t : Itm) (w : World) (h1 : Rep w.heap.size w n v t) (h2 : Rep w.heap.size w m v2 t) :
    Calls Try.prog 19 #[v, v2] w fun e w' => e = .returned (.bool true) ∧ Below w.heap.size w w' := by
  have k1 := rep_lift m h1
  have k2 := rep_lift n h2
  rw [Nat.add_comm] at k2
  exact same_any (n + m) v v2 t w k1 k2

namespace Itm
theorem cnt_le_enc (t : Itm) : pure t = true → cnt t ≤ (enc t).length := by
  refine ind (p := fun t => pure t = true → cnt t ≤ (enc t).length) ?_ t
  intro t ih hp
  rw [pure_eq] at hp
  simp only [Bool.and_eq_true] at hp
  obtain ⟨hp1, hp2⟩ := hp
  rw [cnt_eq, enc_eq]
  by_cases hl : t.list
  · rw [if_pos hl]
    have h1 := headed_len 192 (t.items.flatMap enc)
    have h2 : ∀ l : List Itm, (∀ x ∈ l, cnt x ≤ (enc x).length) → (l.map cnt).sum ≤ (l.flatMap enc).length := by
      intro l
      induction l with
      | nil => intro _; simp
      | cons x l ihl =>
        intro hx
        have a1 := hx x (by simp)
        have a2 := ihl (fun y hy => hx y (by simp [hy]))
        simp only [List.map_cons, List.sum_cons, List.flatMap_cons, List.length_append]
        omega
    have h3 := h2 t.items (fun x hx => ih x hx (by simp only [List.all_eq_true] at hp2; exact hp2 x hx))
    omega
  · rw [if_neg hl] at hp1 ⊢
    have h0 : t.items = [] := by simpa using hp1
    have hne := enc_ne t
    rw [enc_eq, if_neg hl] at hne
    have := List.length_pos_iff.2 hne
    rw [h0]; simp; omega

/-- Bytes begin with one item's bytes alone. -/
theorem enc_prefix {t t' : Itm} {r r' : List UInt8} (h1 : pure t = true) (h2 : pure t' = true) (l1 : (enc t).length < 256 ^ 8) (l2 : (enc t').length < 256 ^ 8) (h : enc t ++ r = enc t' ++ r') : t = t' ∧ r = r' := by
  have e1 := parse_complete ((enc t).length + (enc t').length) t r h1 (by omega) l1
  have e2 := parse_complete ((enc t).length + (enc t').length) t' r' h2 (by omega) l2
  rw [h, e2] at e1
  simp only [Option.some.injEq, Prod.mk.injEq] at e1
  exact ⟨e1.1.symm, e1.2.symm⟩

theorem dec_enc {t : Itm} (h1 : pure t = true) (h2 : deep t ≤ 8) (h3 : (enc t).length ≤ 1000) : dec (enc t) = .ok t := by
  unfold dec
  rw [if_neg (by omega)]
  have := parse_complete (enc t).length t [] h1 (Nat.le_refl _) (by omega)
  rw [List.append_nil] at this
  rw [this]
  simp; omega

theorem dec_ok {l : List UInt8} {t : Itm} (h : dec l = .ok t) : l = enc t ∧ pure t = true ∧ deep t ≤ 8 ∧ l.length ≤ 1000 := by
  unfold dec at h
  by_cases h1 : 1000 < l.length
  · rw [if_pos h1] at h; cases h
  · rw [if_neg h1] at h
    cases hp : parse l.length l with
    | none => rw [hp] at h; cases h
    | some tr =>
      obtain ⟨t', rest⟩ := tr
      rw [hp] at h
      simp only at h
      by_cases hr : rest.isEmpty
      · rw [if_pos hr] at h
        by_cases h8 : 8 < deep t'
        · rw [if_pos h8] at h; cases h
        · rw [if_neg h8] at h
          cases h
          obtain ⟨e, p⟩ := parse_sound _ _ _ _ hp
          simp at hr
          subst hr
          exact ⟨by simpa using e, p, by omega, by omega⟩
      · rw [if_neg hr] at h; cases h

theorem dec_err {l : List UInt8} {n : Nat} (h : dec l = .error n) : n = 1 ∨ n = 2 := by
  unfold dec at h
  by_cases h1 : 1000 < l.length
  · rw [if_pos h1] at h; cases h; omega
  · rw [if_neg h1] at h
    cases hp : parse l.length l with
    | none => rw [hp] at h; cases h; omega
    | some tr =>
      obtain ⟨t', rest⟩ := tr
      rw [hp] at h
      simp only at h
      by_cases hr : rest.isEmpty
      · rw [if_pos hr] at h
        by_cases h8 : 8 < deep t'
        · rw [if_pos h8] at h; cases h; omega
        · rw [if_neg h8] at h; cases h
      · rw [if_neg hr] at h; cases h; omega

theorem dec_more {t : Itm} (h1 : pure t = true) (h3 : (enc t).length ≤ 1000) (c : UInt8) : ∃ n, dec (enc t ++ [c]) = .error n := by
  cases h : dec (enc t ++ [c]) with
  | error n => exact ⟨n, rfl⟩
  | ok t' =>
    exfalso
    obtain ⟨e, p, _, hl⟩ := dec_ok h
    have := (enc_prefix (r := [c]) (r' := []) h1 p (by omega) (by rw [← e]; omega) (by rw [e]; simp)).2
    simp at this

theorem dec_less {t : Itm} (h1 : pure t = true) (h3 : (enc t).length ≤ 1000) : dec ((enc t).take ((enc t).length - 1)) = .error 1 := by
  have hne := enc_ne t
  have hpos := List.length_pos_iff.2 hne
  unfold dec
  rw [if_neg (by simp; omega)]
  cases hp : parse ((enc t).take ((enc t).length - 1)).length ((enc t).take ((enc t).length - 1)) with
  | none => rfl
  | some tr =>
    obtain ⟨t', rest⟩ := tr
    simp only
    by_cases hr : rest.isEmpty
    · exfalso
      obtain ⟨e, p⟩ := parse_sound _ _ _ _ hp
      simp at hr
      subst hr
      rw [List.append_nil] at e
      have hl : (enc t').length = (enc t).length - 1 := by rw [← e]; simp
      have := (enc_prefix (t := t) (t' := t') (r := []) (r' := (enc t).drop ((enc t).length - 1)) h1 p (by omega) (by omega) (by rw [← e]; simp)).2
      have h2 : ((enc t).drop ((enc t).length - 1)).length = 1 := by simp; omega
      rw [← this] at h2
      simp at h2
    · rw [if_neg hr]
end Itm
end Go.Proofs.Ytplfjengfhijhaa
