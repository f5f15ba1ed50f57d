/- The walks of the document's own pure, depth and Encode: they answer as the program's Encode does. -/
import Derived.Test.YtplfjengfhijhaaRefBytes
namespace Go.Proofs.Ytplfjengfhijhaa
open Go.RowKit

/-- Are the first k items pure? -/
def pureTo (t : Itm) (k : Nat) : Bool := (t.items.take k).all Itm.pure

theorem pureTo_succ (t : Itm) (k : Nat) (h : k < t.items.length) : pureTo t (k + 1) = (pureTo t k && Itm.pure t.items[k]) := by
  unfold pureTo
  rw [List.take_succ_eq_append_getElem h, List.all_append]
  simp

theorem pureTo_all (t : Itm) (h : Itm.stray t = false) : Itm.pure t = pureTo t t.items.length := by
  rw [Itm.pure_stray, h]; simp [pureTo]

theorem pure_not (t : Itm) (k : Nat) (h : k < t.items.length) (hp : Itm.pure t.items[k] = false) : Itm.pure t = false := by
  rw [Itm.pure_stray]
  have : t.items.all Itm.pure = false := by
    rw [List.all_eq_false]
    exact ⟨_, List.getElem_mem h, by rw [hp]; simp⟩
  rw [this]; simp

set_option maxRecDepth 100000 in
set_option maxHeartbeats 800000 in
theorem pureR_stray (t : Itm) (w : World) (a : Option Addr) (cap : Nat) (hs : Itm.stray t = true) :
    Calls Try.prog 21 #[.agg #[.bool t.list, .string ⟨t.bytes.toArray⟩, .slice a t.items.length cap]] w fun e w' => e = .returned (.bool false) ∧ Below w.heap.size w w' := by
  unfold Itm.stray at hs
  by_cases hl : t.list
  · rw [if_pos hl] at hs
    have hb : t.bytes.isEmpty = false := by simpa using hs
    have hl' : t.list = true := hl
    rw [hl']
    clear hs hl hl'
    go_enter Try.func21, Try.ntmps21
    go_wp2_with fail
    go_ret
    exact ⟨rfl, (Below.refl _ _).alloc (Nat.le_refl _) _⟩
  · rw [if_neg hl] at hs
    have hb : (0 : Int) < (t.items.length : Int) := by simp at hs; omega
    have hl' : t.list = false := by simpa using hl
    rw [hl']
    clear hs hl hl'
    go_enter Try.func21, Try.ntmps21
    go_wp2_with fail
    go_ret
    exact ⟨rfl, (Below.refl _ _).alloc (Nat.le_refl _) _⟩

set_option maxRecDepth 100000 in
set_option maxHeartbeats 800000 in
theorem pureR_any (n : Nat) : ∀ (v : Value) (t : Itm) (w : World), Rep w.heap.size w n v t →
    Calls Try.prog 21 #[v] w fun e w' => e = .returned (.bool (Itm.pure t)) ∧ Below w.heap.size w w' := by
  induction n with
  | zero => intro v t w h; exact h.elim
  | succ n ih =>
    intro v t w hrep
    obtain ⟨a, cap, rfl, hm, hkids⟩ := hrep
    cases hs : Itm.stray t with
    | true =>
      have hp : Itm.pure t = false := by rw [Itm.pure_stray, hs]; rfl
      rw [hp]
      exact pureR_stray t w a cap hs
    | false =>
      have HS := hid hs
      have HK := hid hkids
      have IH := hid ih
      have hst : (t.list = true ∧ t.bytes.isEmpty = true) ∨ (t.list = false ∧ ¬ (0 : Int) < (t.items.length : Int)) := by
        unfold Itm.stray at hs
        by_cases hl : t.list
        · rw [if_pos hl] at hs; exact .inl ⟨hl, by simpa using hs⟩
        · rw [if_neg hl] at hs; exact .inr ⟨by simpa using hl, by simp at hs; rw [hs]; simp⟩
      clear hkids ih hs
      unfold maxLen at hm
      have key : ∀ lb : Bool, t.list = lb → Calls Try.prog 21 #[.agg #[.bool lb, .string ⟨t.bytes.toArray⟩, .slice a t.items.length cap]] w fun e w' => e = .returned (.bool (Itm.pure t)) ∧ Below w.heap.size w w' := by
        intro lb hlb
        rcases hst with ⟨h1, h2⟩ | ⟨h1, h2⟩
        · rw [h1] at hlb
          subst hlb
          clear h1
          go_enter Try.func21, Try.ntmps21
          go_wp2_with fail
          go_loopw [3] (fun i wr => ∃ k : Nat, k ≤ t.items.length ∧ i = .int .i64 k ∧ Hid (pureTo t k = true ∧ wr.cell? ⟨w.heap.size, 2, none⟩ = some (.slice a t.items.length cap) ∧ w.heap.size < wr.heap.size ∧ Below w.heap.size w wr)) (fun i _ => t.items.length - (intOf i).toNat)
          case atStart => exact ⟨0, Nat.zero_le _, rfl, by simp [pureTo], by simp, by simp, (Below.refl _ _).alloc (Nat.le_refl _) _⟩
          case round =>
            obtain ⟨k, hk, rfl, HH⟩ := hrel
            have x2 := HH.out.2.1
            by_cases hlt : k < t.items.length
            · obtain ⟨b, off, c0, c1, c2, rfl, hbl, e0, e1, e2, hr⟩ := HK.out k hlt
              obtain ⟨a2, cap2, rfl, rfl, rfl⟩ := rep_shape hr
              have HB0 := hid HH.out.2.2.2
              have f0 := (HB0.out.cell (p := ⟨b, off + k * 3, none⟩) hbl).trans e0
              have f1 := (HB0.out.cell (p := ⟨b, off + k * 3 + 1, none⟩) hbl).trans e1
              have f2 := (HB0.out.cell (p := ⟨b, off + k * 3 + 2, none⟩) hbl).trans e2
              have HR := hid hr
              clear e0 e1 e2 hr
              go_wp2_with fail
              refine (IH.out _ t.items[k] _ (rep_in HR.out HB0.out)).mono ?_
              rintro e w1 ⟨rfl, hbel⟩
              have HB1 := hid hbel
              clear hbel
              cases hp : Itm.pure t.items[k] with
              | true =>
                have HP := hid hp
                clear hp
                go_wp2_with fail
                refine ⟨⟨k + 1, by omega, by go_num, by rw [pureTo_succ t k hlt, HH.out.1, HP.out]; rfl, (HB1.out.cell (p := ⟨w.heap.size, 2, none⟩) HH.out.2.2.1).trans HH.out.2.1, Nat.lt_of_lt_of_le HH.out.2.2.1 HB1.out.size, HB0.out.trans (HB1.out.mono HB0.out.size)⟩, by simp [intOf]; omega⟩
              | false =>
                have HP := hid hp
                clear hp
                go_wp2_with fail
                go_ret
                exact ⟨by rw [pure_not t k hlt HP.out]; rfl, HB0.out.trans (HB1.out.mono HB0.out.size)⟩
            · have HKE := hid (show k = t.items.length by omega)
              go_wp2_with fail
              go_ret
              exact ⟨by rw [pureTo_all t HS.out, ← HKE.out, HH.out.1]; rfl, HH.out.2.2.2⟩
        · rw [h1] at hlb
          subst hlb
          have h0 : t.items.length = 0 := by omega
          have hpt : Itm.pure t = true := by rw [pureTo_all t HS.out, h0]; simp [pureTo]
          rw [hpt, h0]
          clear h1 h2 h0 hpt
          go_enter Try.func21, Try.ntmps21
          go_wp2_with fail
          refine wp_loop_rounds 1 ?_
          rw [rounds_succ]
          go_wp2_with fail
          go_ret
          exact ⟨rfl, (Below.refl _ _).alloc (Nat.le_refl _) _⟩
      exact key t.list rfl

theorem pure_kid {t : Itm} (h : Itm.pure t = true) (k : Nat) (hk : k < t.items.length) : Itm.pure t.items[k] = true := by
  rw [Itm.pure_stray] at h
  simp only [Bool.and_eq_true, List.all_eq_true] at h
  exact h.2 _ (List.getElem_mem hk)

theorem pure_flat {t : Itm} (h : Itm.pure t = true) (hl : t.list = false) : t.items.length = 0 := by
  rw [Itm.pure_eq, hl] at h
  simp at h
  simp [h.1]

theorem topTo_le' (t : Itm) (k : Nat) (h : t.list = true) (hd : Itm.deep t ≤ 1000000000) : topTo t k ≤ 1000000000 := by
  have := topTo_le t k h; omega

set_option maxRecDepth 100000 in
set_option maxHeartbeats 800000 in
theorem depthR_any (n : Nat) : ∀ (v : Value) (t : Itm) (w : World), Rep w.heap.size w n v t → Itm.pure t = true → Itm.deep t ≤ 1000000000 →
    Calls Try.prog 22 #[v] w fun e w' => e = .returned (.int .i64 (Itm.deep t)) ∧ Below w.heap.size w w' := by
  induction n with
  | zero => intro v t w h; exact h.elim
  | succ n ih =>
    intro v t w hrep hp hd
    obtain ⟨a, cap, rfl, hm, hkids⟩ := hrep
    have HP := hid hp
    have HD := hid hd
    have HK := hid hkids
    have IH := hid ih
    clear hkids ih hp hd
    unfold maxLen at hm
    by_cases hl : t.list
    · have HL := hid (show t.list = true from hl)
      have hl' : t.list = true := hl
      rw [hl']
      clear hl hl'
      go_enter Try.func22, Try.ntmps22
      go_wp2_with fail
      go_loopw [3, 4] (fun d i wr => ∃ k : Nat, k ≤ t.items.length ∧ i = .int .i64 k ∧ d = .int .i64 (topTo t k) ∧ Hid (wr.cell? ⟨w.heap.size, 0, none⟩ = some (.bool true) ∧ wr.cell? ⟨w.heap.size, 2, none⟩ = some (.slice a t.items.length cap) ∧ w.heap.size < wr.heap.size ∧ Below w.heap.size w wr)) (fun _ i _ => t.items.length - (intOf i).toNat)
      case atStart => exact ⟨0, Nat.zero_le _, rfl, by rw [topTo_zero]; rfl, by simp, by simp, by simp, (Below.refl _ _).alloc (Nat.le_refl _) _⟩
      case round =>
        obtain ⟨k, hk, rfl, rfl, HH⟩ := hrel
        have x0 := HH.out.1
        have x2 := HH.out.2.1
        have htb := topTo_le t k HL.out
        have htb2 : topTo t k + 1 ≤ 1000000000 := Nat.le_trans htb HD.out
        clear htb
        by_cases hlt : k < t.items.length
        · obtain ⟨b, off, c0, c1, c2, rfl, hbl, e0, e1, e2, hr⟩ := HK.out k hlt
          obtain ⟨a2, cap2, rfl, rfl, rfl⟩ := rep_shape hr
          have HB0 := hid HH.out.2.2.2
          have f0 := (HB0.out.cell (p := ⟨b, off + k * 3, none⟩) hbl).trans e0
          have f1 := (HB0.out.cell (p := ⟨b, off + k * 3 + 1, none⟩) hbl).trans e1
          have f2 := (HB0.out.cell (p := ⟨b, off + k * 3 + 2, none⟩) hbl).trans e2
          have HR := hid hr
          have HT := hid (topTo_succ t k hlt)
          have hdk : Itm.deep t.items[k] ≤ 1000000000 := by have := deep_kid t k hlt HL.out; have := HD.out; omega
          clear e0 e1 e2 hr
          go_wp2_with fail
          refine (IH.out _ t.items[k] _ (rep_in HR.out HB0.out) (pure_kid HP.out k hlt) hdk).mono ?_
          rintro e w1 ⟨rfl, hbel⟩
          have HB1 := hid hbel
          have HR2 : Hid (w1.cell? ⟨w.heap.size, 0, none⟩ = some (.bool true) ∧ w1.cell? ⟨w.heap.size, 2, none⟩ = some (.slice (some ⟨b, off, none⟩) t.items.length cap) ∧ w.heap.size < w1.heap.size ∧ Below w.heap.size w w1) :=
            ⟨(hbel.cell (p := ⟨w.heap.size, 0, none⟩) HH.out.2.2.1).trans HH.out.1, (hbel.cell (p := ⟨w.heap.size, 2, none⟩) HH.out.2.2.1).trans HH.out.2.1, Nat.lt_of_lt_of_le HH.out.2.2.1 hbel.size, HB0.out.trans (hbel.mono HB0.out.size)⟩
          clear hbel
          by_cases hgt : topTo t k < Itm.deep t.items[k]
          · have hgt' : (topTo t k : Int) < (Itm.deep t.items[k] : Int) := by omega
            go_wp2_with fail
            refine ⟨⟨k + 1, by omega, by go_num, congrArg (Value.int .i64) (by rw [HT.out]; omega), HR2.out⟩, by simp [intOf]; omega⟩
          · have hgt' : ¬ (topTo t k : Int) < (Itm.deep t.items[k] : Int) := by omega
            go_wp2_with fail
            refine ⟨⟨k + 1, by omega, by go_num, congrArg (Value.int .i64) (by rw [HT.out]; omega), HR2.out⟩, by simp [intOf]; omega⟩
        · have HKE := hid (show k = t.items.length by omega)
          go_wp2_with fail
          go_ret
          refine ⟨?_, HH.out.2.2.2⟩
          rw [topTo_all t HL.out, ← HKE.out]
          simp
    · have hl' : t.list = false := by simpa using hl
      have h0 := pure_flat HP.out hl'
      have hd0 : Itm.deep t = 0 := by rw [Itm.deep_eq, hl']; rfl
      rw [hl', hd0, h0]
      clear hl hl' h0 hd0
      go_enter Try.func22, Try.ntmps22
      go_wp2_with fail
      refine wp_loop_rounds 1 ?_
      rw [rounds_succ]
      go_wp2_with fail
      go_ret
      exact ⟨rfl, (Below.refl _ _).alloc (Nat.le_refl _) _⟩

set_option maxHeartbeats 400000 in
theorem num_any (n : Int) (w : World) : Calls Try.prog 10 #[.int .i64 n] w fun e w' => e = .returned (.int .i64 n) ∧ w' = w := by
  go_enter Try.func10, Try.ntmps10
  go_wp2_with fail
  go_ret
  exact ⟨rfl, rfl⟩

theorem deep_le_wt (t : Itm) : Itm.deep t ≤ Itm.wt t := by
  refine Itm.ind (p := fun t => Itm.deep t ≤ Itm.wt t) ?_ t
  intro t ih
  rw [Itm.deep_eq, Itm.wt_eq]
  split
  · have : Itm.top (t.items.map Itm.deep) ≤ (t.items.map Itm.wt).sum := Itm.top_le (by
      intro x hx
      simp only [List.mem_map] at hx
      obtain ⟨y, hy, rfl⟩ := hx
      exact Nat.le_trans (ih y hy) (Itm.mem_wt hy))
    omega
  · omega

set_option maxRecDepth 100000 in
set_option maxHeartbeats 800000 in
theorem encodeR_any (n : Nat) (t : Itm) (w : World) (v : Value) (hc : Itm.wt t ≤ 1000000000) (hrep : Rep w.heap.size w n v t) :
    Calls Try.prog 8 #[v] w fun e w' => e = .returned (.tuple #[.string ⟨(Itm.encA t).1.toArray⟩, .int .i64 ((Itm.encA t).2 : Nat)]) ∧ Below w.heap.size w w' := by
  obtain ⟨a, cap, rfl⟩ : ∃ a cap, v = .agg #[.bool t.list, .string ⟨t.bytes.toArray⟩, .slice a t.items.length cap] := by
    cases n with
    | zero => exact hrep.elim
    | succ n => obtain ⟨a, cap, hv, _⟩ := hrep; exact ⟨a, cap, hv⟩
  have HR := hid hrep
  have HPU := hid (fun w h => pureR_any n (.agg #[.bool t.list, .string ⟨t.bytes.toArray⟩, .slice a t.items.length cap]) t w h)
  have HDE := hid (fun w h hp => depthR_any n (.agg #[.bool t.list, .string ⟨t.bytes.toArray⟩, .slice a t.items.length cap]) t w h hp (by have := deep_le_wt t; omega))
  have HBY := hid (fun w h => bytesR_any n (.agg #[.bool t.list, .string ⟨t.bytes.toArray⟩, .slice a t.items.length cap]) t w h hc)
  have hel := Itm.enc_le_wt t hc
  have hdl := deep_le_wt t
  clear hrep
  cases hp : Itm.pure t with
  | false =>
    rw [Itm.encA_impure hp]
    rw [hp] at HPU
    clear hp
    go_enter Try.func8, Try.ntmps8
    go_wp2_with fail
    refine (HPU.out _ (rep_in HR.out ((Below.refl _ _).alloc (Nat.le_refl _) _))).mono ?_
    rintro e w1 ⟨rfl, hbel⟩
    go_wp2_with fail
    go_ret2
    exact ⟨rfl, below_of_box hbel⟩
  | true =>
    have HP := hid hp
    rw [hp] at HPU
    clear hp
    by_cases h8 : 8 < Itm.deep t
    · rw [Itm.encA_big HP.out (by omega)]
      have h8' : (8 : Int) < (Itm.deep t : Int) := by omega
      go_enter Try.func8, Try.ntmps8
      go_wp2_with fail
      refine (HPU.out _ (rep_in HR.out ((Below.refl _ _).alloc (Nat.le_refl _) _))).mono ?_
      rintro e w1 ⟨rfl, hbel⟩
      obtain ⟨x0, x1, x2⟩ := box_third hbel
      have HB1 := hid (below_of_box hbel)
      clear hbel
      go_wp2_with fail
      refine (HDE.out _ (rep_in HR.out HB1.out) HP.out).mono ?_
      rintro e w2 ⟨rfl, hbel2⟩
      have HB2 := hid (HB1.out.trans (hbel2.mono HB1.out.size))
      clear hbel2
      go_wp2_with fail
      go_ret2
      exact ⟨rfl, HB2.out⟩
    · have h8' : ¬ (8 : Int) < (Itm.deep t : Int) := by omega
      have run : ∀ E : List UInt8 × Nat, (1000 < (Itm.enc t).length → E = ([], 2)) → (¬ 1000 < (Itm.enc t).length → E = (Itm.enc t, 0)) →
          Calls Try.prog 8 #[.agg #[.bool t.list, .string ⟨t.bytes.toArray⟩, .slice a t.items.length cap]] w fun e w' => e = .returned (.tuple #[.string ⟨E.1.toArray⟩, .int .i64 (E.2 : Nat)]) ∧ Below w.heap.size w w' := by
        intro E hE1 hE2
        have HE1 := hid hE1
        have HE2 := hid hE2
        clear hE1 hE2
        by_cases hb : 1000 < (Itm.enc t).length
        · have hb' : (1000 : Int) < ((Itm.enc t).length : Int) := by omega
          obtain rfl := HE1.out hb
          go_enter Try.func8, Try.ntmps8
          go_wp2_with fail
          refine (HPU.out _ (rep_in HR.out ((Below.refl _ _).alloc (Nat.le_refl _) _))).mono ?_
          rintro e w1 ⟨rfl, hbel⟩
          obtain ⟨x0, x1, x2⟩ := box_third hbel
          have HB1 := hid (below_of_box hbel)
          have HBX := hid hbel
          clear hbel
          go_wp2_with fail
          refine (HDE.out _ (rep_in HR.out HB1.out) HP.out).mono ?_
          rintro e w2 ⟨rfl, hbel2⟩
          have HB2 := hid (HB1.out.trans (hbel2.mono HB1.out.size))
          obtain ⟨y0, y1, y2⟩ := box_third (HBX.out.trans (hbel2.mono HBX.out.size))
          clear hbel2
          go_wp2_with fail
          refine (HBY.out _ (rep_in HR.out HB2.out)).mono ?_
          rintro e w3 ⟨rfl, hbel3⟩
          have HB3 := hid (HB2.out.trans (hbel3.mono HB2.out.size))
          clear hbel3
          go_wp2_with fail
          go_ret2
          exact ⟨rfl, HB3.out⟩
        · have hb' : ¬ (1000 : Int) < ((Itm.enc t).length : Int) := by omega
          obtain rfl := HE2.out hb
          go_enter Try.func8, Try.ntmps8
          go_wp2_with fail
          refine (HPU.out _ (rep_in HR.out ((Below.refl _ _).alloc (Nat.le_refl _) _))).mono ?_
          rintro e w1 ⟨rfl, hbel⟩
          obtain ⟨x0, x1, x2⟩ := box_third hbel
          have HB1 := hid (below_of_box hbel)
          have HBX := hid hbel
          clear hbel
          go_wp2_with fail
          refine (HDE.out _ (rep_in HR.out HB1.out) HP.out).mono ?_
          rintro e w2 ⟨rfl, hbel2⟩
          have HB2 := hid (HB1.out.trans (hbel2.mono HB1.out.size))
          obtain ⟨y0, y1, y2⟩ := box_third (HBX.out.trans (hbel2.mono HBX.out.size))
          clear hbel2
          go_wp2_with fail
          refine (HBY.out _ (rep_in HR.out HB2.out)).mono ?_
          rintro e w3 ⟨rfl, hbel3⟩
          have HB3 := hid (HB2.out.trans (hbel3.mono HB2.out.size))
          clear hbel3
          go_wp2_with fail
          go_ret2
          exact ⟨rfl, HB3.out⟩
      exact run _ (fun hb => Itm.encA_big HP.out (by omega)) (fun hb => Itm.encA_ok HP.out ⟨by omega, by omega⟩)
end Go.Proofs.Ytplfjengfhijhaa
