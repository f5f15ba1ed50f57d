/- Part 5 of a proof: what the last text needs. -/
import Derived.Test.YtbmohenjphmlgaaPart4
/- The walks of the document's own pure, depth and Encode: they answer as the program's Encode does. -/
namespace Go.Proofs.Ytbmohenjphmlgaa
open Go.RowKit
set_option maxRecDepth 100000

/-- Are the first k items pure? -/
def pureTo (t : Itm) (k : Nat) : Bool := (t.items.take k).all Itm.pure

theorem pureTo_succ (t : Itm) (k : Nat) (h : k < t.items.length) : pureTo t (k + 1) = (pureTo t k && Itm.pure t.items[k]) := by
  unfold pureTo
  rw [List.take_succ_eq_append_getElem h, List.all_append]
  simp

theorem pureTo_all (t : Itm) (h : Itm.stray t = false) : Itm.pure t = pureTo t t.items.length := by
  rw [Itm.pure_stray, h]; simp [pureTo]

theorem pure_not (t : Itm) (k : Nat) (h : k < t.items.length) (hp : Itm.pure t.items[k] = false) : Itm.pure t = false := by
  rw [Itm.pure_stray]
  have : t.items.all Itm.pure = false := by
    rw [List.all_eq_false]
    exact ⟨_, List.getElem_mem h, by rw [hp]; simp⟩
  rw [this]; simp

set_option maxHeartbeats 800000 in
theorem pureR_stray (t : Itm) (w : World) (a : Option Addr) (cap : Nat) (hs : Itm.stray t = true) :
    Calls Try.prog 42 #[.agg #[.bool t.list, .string ⟨t.bytes.toArray⟩, .slice a t.items.length cap]] w fun e w' => e = .returned (.bool false) ∧ Below w.heap.size w w' := by
  unfold Itm.stray at hs
  by_cases hl : t.list
  · rw [if_pos hl] at hs
    have hb : t.bytes.isEmpty = false := by simpa using hs
    have hl' : t.list = true := hl
    rw [hl']
    clear hs hl hl'
    go_enter Try.func42, Try.ntmps42
    go_wp2_with fail
    go_ret
    exact ⟨rfl, (Below.refl _ _).alloc (Nat.le_refl _) _⟩
  · rw [if_neg hl] at hs
    have hb : (0 : Int) < (t.items.length : Int) := by simp at hs; omega
    have hl' : t.list = false := by simpa using hl
    rw [hl']
    clear hs hl hl'
    go_enter Try.func42, Try.ntmps42
    go_wp2_with fail
    go_ret
    exact ⟨rfl, (Below.refl _ _).alloc (Nat.le_refl _) _⟩

set_option maxHeartbeats 800000 in
theorem pureR_any (n : Nat) : ∀ (v : Value) (t : Itm) (w : World), Rep w.heap.size w n v t →
    Calls Try.prog 42 #[v] w fun e w' => e = .returned (.bool (Itm.pure t)) ∧ Below w.heap.size w w' := by
  induction n with
  | zero => intro v t w h; exact h.elim
  | succ n ih =>
    intro v t w hrep
    obtain ⟨a, cap, rfl, hm, hkids⟩ := hrep
    cases hs : Itm.stray t with
    | true =>
      have hp : Itm.pure t = false := by rw [Itm.pure_stray, hs]; rfl
      rw [hp]
      exact pureR_stray t w a cap hs
    | false =>
      have HS := hid hs
      have HK := hid hkids
      have IH := hid ih
      have hst : (t.list = true ∧ t.bytes.isEmpty = true) ∨ (t.list = false ∧ ¬ (0 : Int) < (t.items.length : Int)) := by
        unfold Itm.stray at hs
        by_cases hl : t.list
        · rw [if_pos hl] at hs; exact .inl ⟨hl, by simpa using hs⟩
        · rw [if_neg hl] at hs; exact .inr ⟨by simpa using hl, by simp at hs; rw [hs]; simp⟩
      clear hkids ih hs
      unfold maxLen at hm
      have key : ∀ lb : Bool, t.list = lb → Calls Try.prog 42 #[.agg #[.bool lb, .string ⟨t.bytes.toArray⟩, .slice a t.items.length cap]] w fun e w' => e = .returned (.bool (Itm.pure t)) ∧ Below w.heap.size w w' := by
        intro lb hlb
        rcases hst with ⟨h1, h2⟩ | ⟨h1, h2⟩
        · rw [h1] at hlb
          subst hlb
          clear h1
          go_enter Try.func42, Try.ntmps42
          go_wp2_with fail
          go_loopw [3] (fun i wr => ∃ k : Nat, k ≤ t.items.length ∧ i = .int .i64 k ∧ Hid (pureTo t k = true ∧ wr.cell? ⟨w.heap.size, 2, none⟩ = some (.slice a t.items.length cap) ∧ w.heap.size < wr.heap.size ∧ Below w.heap.size w wr)) (fun i _ => t.items.length - (intOf i).toNat)
          case atStart => exact ⟨0, Nat.zero_le _, rfl, by simp [pureTo], by simp, by simp, (Below.refl _ _).alloc (Nat.le_refl _) _⟩
          case round =>
            obtain ⟨k, hk, rfl, HH⟩ := hrel
            have x2 := HH.out.2.1
            by_cases hlt : k < t.items.length
            · obtain ⟨b, off, c0, c1, c2, rfl, hbl, e0, e1, e2, hr⟩ := HK.out k hlt
              obtain ⟨a2, cap2, rfl, rfl, rfl⟩ := rep_shape hr
              have HB0 := hid HH.out.2.2.2
              have f0 := (HB0.out.cell (p := ⟨b, off + k * 3, none⟩) hbl).trans e0
              have f1 := (HB0.out.cell (p := ⟨b, off + k * 3 + 1, none⟩) hbl).trans e1
              have f2 := (HB0.out.cell (p := ⟨b, off + k * 3 + 2, none⟩) hbl).trans e2
              have HR := hid hr
              clear e0 e1 e2 hr
              go_wp2_with fail
              refine (IH.out _ t.items[k] _ (rep_in HR.out HB0.out)).mono ?_
              rintro e w1 ⟨rfl, hbel⟩
              have HB1 := hid hbel
              clear hbel
              cases hp : Itm.pure t.items[k] with
              | true =>
                have HP := hid hp
                clear hp
                go_wp2_with fail
                refine ⟨⟨k + 1, by omega, by go_num, by rw [pureTo_succ t k hlt, HH.out.1, HP.out]; rfl, (HB1.out.cell (p := ⟨w.heap.size, 2, none⟩) HH.out.2.2.1).trans HH.out.2.1, Nat.lt_of_lt_of_le HH.out.2.2.1 HB1.out.size, HB0.out.trans (HB1.out.mono HB0.out.size)⟩, by simp [intOf]; omega⟩
              | false =>
                have HP := hid hp
                clear hp
                go_wp2_with fail
                go_ret
                exact ⟨by rw [pure_not t k hlt HP.out]; rfl, HB0.out.trans (HB1.out.mono HB0.out.size)⟩
            · have HKE := hid (show k = t.items.length by omega)
              go_wp2_with fail
              go_ret
              exact ⟨by rw [pureTo_all t HS.out, ← HKE.out, HH.out.1]; rfl, HH.out.2.2.2⟩
        · rw [h1] at hlb
          subst hlb
          have h0 : t.items.length = 0 := by omega
          have hpt : Itm.pure t = true := by rw [pureTo_all t HS.out, h0]; simp [pureTo]
          rw [hpt, h0]
          clear h1 h2 h0 hpt
          go_enter Try.func42, Try.ntmps42
          go_wp2_with fail
          refine wp_loop_rounds 1 ?_
          rw [rounds_succ]
          go_wp2_with fail
          go_ret
          exact ⟨rfl, (Below.refl _ _).alloc (Nat.le_refl _) _⟩
      exact key t.list rfl

theorem pure_kid {t : Itm} (h : Itm.pure t = true) (k : Nat) (hk : k < t.items.length) : Itm.pure t.items[k] = true := by
  rw [Itm.pure_stray] at h
  simp only [Bool.and_eq_true, List.all_eq_true] at h
  exact h.2 _ (List.getElem_mem hk)

theorem pure_flat {t : Itm} (h : Itm.pure t = true) (hl : t.list = false) : t.items.length = 0 := by
  rw [Itm.pure_eq, hl] at h
  simp at h
  simp [h.1]

theorem topTo_le' (t : Itm) (k : Nat) (h : t.list = true) (hd : Itm.deep t ≤ 1000000000) : topTo t k ≤ 1000000000 := by
  have := topTo_le t k h; omega

set_option maxHeartbeats 800000 in
theorem depthR_any (n : Nat) : ∀ (v : Value) (t : Itm) (w : World), Rep w.heap.size w n v t → Itm.pure t = true → Itm.deep t ≤ 1000000000 →
    Calls Try.prog 43 #[v] w fun e w' => e = .returned (.int .i64 (Itm.deep t)) ∧ Below w.heap.size w w' := by
  induction n with
  | zero => intro v t w h; exact h.elim
  | succ n ih =>
    intro v t w hrep hp hd
    obtain ⟨a, cap, rfl, hm, hkids⟩ := hrep
    have HP := hid hp
    have HD := hid hd
    have HK := hid hkids
    have IH := hid ih
    clear hkids ih hp hd
    unfold maxLen at hm
    by_cases hl : t.list
    · have HL := hid (show t.list = true from hl)
      have hl' : t.list = true := hl
      rw [hl']
      clear hl hl'
      go_enter Try.func43, Try.ntmps43
      go_wp2_with fail
      go_loopw [3, 4] (fun d i wr => ∃ k : Nat, k ≤ t.items.length ∧ i = .int .i64 k ∧ d = .int .i64 (topTo t k) ∧ Hid (wr.cell? ⟨w.heap.size, 0, none⟩ = some (.bool true) ∧ wr.cell? ⟨w.heap.size, 2, none⟩ = some (.slice a t.items.length cap) ∧ w.heap.size < wr.heap.size ∧ Below w.heap.size w wr)) (fun _ i _ => t.items.length - (intOf i).toNat)
      case atStart => exact ⟨0, Nat.zero_le _, rfl, by rw [topTo_zero]; rfl, by simp, by simp, by simp, (Below.refl _ _).alloc (Nat.le_refl _) _⟩
      case round =>
        obtain ⟨k, hk, rfl, rfl, HH⟩ := hrel
        have x0 := HH.out.1
        have x2 := HH.out.2.1
        have htb := topTo_le t k HL.out
        have htb2 : topTo t k + 1 ≤ 1000000000 := Nat.le_trans htb HD.out
        clear htb
        by_cases hlt : k < t.items.length
        · obtain ⟨b, off, c0, c1, c2, rfl, hbl, e0, e1, e2, hr⟩ := HK.out k hlt
          obtain ⟨a2, cap2, rfl, rfl, rfl⟩ := rep_shape hr
          have HB0 := hid HH.out.2.2.2
          have f0 := (HB0.out.cell (p := ⟨b, off + k * 3, none⟩) hbl).trans e0
          have f1 := (HB0.out.cell (p := ⟨b, off + k * 3 + 1, none⟩) hbl).trans e1
          have f2 := (HB0.out.cell (p := ⟨b, off + k * 3 + 2, none⟩) hbl).trans e2
          have HR := hid hr
          have HT := hid (topTo_succ t k hlt)
          have hdk : Itm.deep t.items[k] ≤ 1000000000 := by have := deep_kid t k hlt HL.out; have := HD.out; omega
          clear e0 e1 e2 hr
          go_wp2_with fail
          refine (IH.out _ t.items[k] _ (rep_in HR.out HB0.out) (pure_kid HP.out k hlt) hdk).mono ?_
          rintro e w1 ⟨rfl, hbel⟩
          have HB1 := hid hbel
          have HR2 : Hid (w1.cell? ⟨w.heap.size, 0, none⟩ = some (.bool true) ∧ w1.cell? ⟨w.heap.size, 2, none⟩ = some (.slice (some ⟨b, off, none⟩) t.items.length cap) ∧ w.heap.size < w1.heap.size ∧ Below w.heap.size w w1) :=
            ⟨(hbel.cell (p := ⟨w.heap.size, 0, none⟩) HH.out.2.2.1).trans HH.out.1, (hbel.cell (p := ⟨w.heap.size, 2, none⟩) HH.out.2.2.1).trans HH.out.2.1, Nat.lt_of_lt_of_le HH.out.2.2.1 hbel.size, HB0.out.trans (hbel.mono HB0.out.size)⟩
          clear hbel
          by_cases hgt : topTo t k < Itm.deep t.items[k]
          · have hgt' : (topTo t k : Int) < (Itm.deep t.items[k] : Int) := by omega
            go_wp2_with fail
            refine ⟨⟨k + 1, by omega, by go_num, congrArg (Value.int .i64) (by rw [HT.out]; omega), HR2.out⟩, by simp [intOf]; omega⟩
          · have hgt' : ¬ (topTo t k : Int) < (Itm.deep t.items[k] : Int) := by omega
            go_wp2_with fail
            refine ⟨⟨k + 1, by omega, by go_num, congrArg (Value.int .i64) (by rw [HT.out]; omega), HR2.out⟩, by simp [intOf]; omega⟩
        · have HKE := hid (show k = t.items.length by omega)
          go_wp2_with fail
          go_ret
          refine ⟨?_, HH.out.2.2.2⟩
          rw [topTo_all t HL.out, ← HKE.out]
          simp
    · have hl' : t.list = false := by simpa using hl
      have h0 := pure_flat HP.out hl'
      have hd0 : Itm.deep t = 0 := by rw [Itm.deep_eq, hl']; rfl
      rw [hl', hd0, h0]
      clear hl hl' h0 hd0
      go_enter Try.func43, Try.ntmps43
      go_wp2_with fail
      refine wp_loop_rounds 1 ?_
      rw [rounds_succ]
      go_wp2_with fail
      go_ret
      exact ⟨rfl, (Below.refl _ _).alloc (Nat.le_refl _) _⟩

set_option maxHeartbeats 400000 in
theorem num_any (n : Int) (w : World) : Calls Try.prog 16 #[.int .i64 n] w fun e w' => e = .returned (.int .i64 n) ∧ w' = w := by
  go_enter Try.func16, Try.ntmps16
  go_wp2_with fail
  go_ret
  exact ⟨rfl, rfl⟩

theorem deep_le_wt (t : Itm) : Itm.deep t ≤ Itm.wt t := by
  refine Itm.ind (p := fun t => Itm.deep t ≤ Itm.wt t) ?_ t
  intro t ih
  rw [Itm.deep_eq, Itm.wt_eq]
  split
  · have : Itm.top (t.items.map Itm.deep) ≤ (t.items.map Itm.wt).sum := Itm.top_le (by
      intro x hx
      simp only [List.mem_map] at hx
      obtain ⟨y, hy, rfl⟩ := hx
      exact Nat.le_trans (ih y hy) (Itm.mem_wt hy))
    omega
  · omega

set_option maxHeartbeats 800000 in
theorem encodeR_any (n : Nat) (t : Itm) (w : World) (v : Value) (hc : Itm.wt t ≤ 1000000000) (hrep : Rep w.heap.size w n v t) :
    Calls Try.prog 14 #[v] w fun e w' => e = .returned (.tuple #[.string ⟨(Itm.encA t).1.toArray⟩, .int .i64 ((Itm.encA t).2 : Nat)]) ∧ Below w.heap.size w w' := by
  obtain ⟨a, cap, rfl⟩ : ∃ a cap, v = .agg #[.bool t.list, .string ⟨t.bytes.toArray⟩, .slice a t.items.length cap] := by
    cases n with
    | zero => exact hrep.elim
    | succ n => obtain ⟨a, cap, hv, _⟩ := hrep; exact ⟨a, cap, hv⟩
  have HR := hid hrep
  have HPU := hid (fun w h => pureR_any n (.agg #[.bool t.list, .string ⟨t.bytes.toArray⟩, .slice a t.items.length cap]) t w h)
  have HDE := hid (fun w h hp => depthR_any n (.agg #[.bool t.list, .string ⟨t.bytes.toArray⟩, .slice a t.items.length cap]) t w h hp (by have := deep_le_wt t; omega))
  have HBY := hid (fun w h => bytesR_any n (.agg #[.bool t.list, .string ⟨t.bytes.toArray⟩, .slice a t.items.length cap]) t w h hc)
  have hel := Itm.enc_le_wt t hc
  have hdl := deep_le_wt t
  clear hrep
  cases hp : Itm.pure t with
  | false =>
    rw [Itm.encA_impure hp]
    rw [hp] at HPU
    clear hp
    go_enter Try.func14, Try.ntmps14
    go_wp2_with fail
    refine (HPU.out _ (rep_in HR.out ((Below.refl _ _).alloc (Nat.le_refl _) _))).mono ?_
    rintro e w1 ⟨rfl, hbel⟩
    go_wp2_with fail
    go_ret2
    exact ⟨rfl, below_of_box hbel⟩
  | true =>
    have HP := hid hp
    rw [hp] at HPU
    clear hp
    by_cases h8 : 8 < Itm.deep t
    · rw [Itm.encA_big HP.out (by omega)]
      have h8' : (8 : Int) < (Itm.deep t : Int) := by omega
      go_enter Try.func14, Try.ntmps14
      go_wp2_with fail
      refine (HPU.out _ (rep_in HR.out ((Below.refl _ _).alloc (Nat.le_refl _) _))).mono ?_
      rintro e w1 ⟨rfl, hbel⟩
      obtain ⟨x0, x1, x2⟩ := box_third hbel
      have HB1 := hid (below_of_box hbel)
      clear hbel
      go_wp2_with fail
      refine (HDE.out _ (rep_in HR.out HB1.out) HP.out).mono ?_
      rintro e w2 ⟨rfl, hbel2⟩
      have HB2 := hid (HB1.out.trans (hbel2.mono HB1.out.size))
      clear hbel2
      go_wp2_with fail
      go_ret2
      exact ⟨rfl, HB2.out⟩
    · have h8' : ¬ (8 : Int) < (Itm.deep t : Int) := by omega
      have run : ∀ E : List UInt8 × Nat, (1000 < (Itm.enc t).length → E = ([], 2)) → (¬ 1000 < (Itm.enc t).length → E = (Itm.enc t, 0)) →
          Calls Try.prog 14 #[.agg #[.bool t.list, .string ⟨t.bytes.toArray⟩, .slice a t.items.length cap]] w fun e w' => e = .returned (.tuple #[.string ⟨E.1.toArray⟩, .int .i64 (E.2 : Nat)]) ∧ Below w.heap.size w w' := by
        intro E hE1 hE2
        have HE1 := hid hE1
        have HE2 := hid hE2
        clear hE1 hE2
        by_cases hb : 1000 < (Itm.enc t).length
        · have hb' : (1000 : Int) < ((Itm.enc t).length : Int) := by omega
          obtain rfl := HE1.out hb
          go_enter Try.func14, Try.ntmps14
          go_wp2_with fail
          refine (HPU.out _ (rep_in HR.out ((Below.refl _ _).alloc (Nat.le_refl _) _))).mono ?_
          rintro e w1 ⟨rfl, hbel⟩
          obtain ⟨x0, x1, x2⟩ := box_third hbel
          have HB1 := hid (below_of_box hbel)
          have HBX := hid hbel
          clear hbel
          go_wp2_with fail
          refine (HDE.out _ (rep_in HR.out HB1.out) HP.out).mono ?_
          rintro e w2 ⟨rfl, hbel2⟩
          have HB2 := hid (HB1.out.trans (hbel2.mono HB1.out.size))
          obtain ⟨y0, y1, y2⟩ := box_third (HBX.out.trans (hbel2.mono HBX.out.size))
          clear hbel2
          go_wp2_with fail
          refine (HBY.out _ (rep_in HR.out HB2.out)).mono ?_
          rintro e w3 ⟨rfl, hbel3⟩
          have HB3 := hid (HB2.out.trans (hbel3.mono HB2.out.size))
          clear hbel3
          go_wp2_with fail
          go_ret2
          exact ⟨rfl, HB3.out⟩
        · have hb' : ¬ (1000 : Int) < ((Itm.enc t).length : Int) := by omega
          obtain rfl := HE2.out hb
          go_enter Try.func14, Try.ntmps14
          go_wp2_with fail
          refine (HPU.out _ (rep_in HR.out ((Below.refl _ _).alloc (Nat.le_refl _) _))).mono ?_
          rintro e w1 ⟨rfl, hbel⟩
          obtain ⟨x0, x1, x2⟩ := box_third hbel
          have HB1 := hid (below_of_box hbel)
          have HBX := hid hbel
          clear hbel
          go_wp2_with fail
          refine (HDE.out _ (rep_in HR.out HB1.out) HP.out).mono ?_
          rintro e w2 ⟨rfl, hbel2⟩
          have HB2 := hid (HB1.out.trans (hbel2.mono HB1.out.size))
          obtain ⟨y0, y1, y2⟩ := box_third (HBX.out.trans (hbel2.mono HBX.out.size))
          clear hbel2
          go_wp2_with fail
          refine (HBY.out _ (rep_in HR.out HB2.out)).mono ?_
          rintro e w3 ⟨rfl, hbel3⟩
          have HB3 := hid (HB2.out.trans (hbel3.mono HB2.out.size))
          clear hbel3
          go_wp2_with fail
          go_ret2
          exact ⟨rfl, HB3.out⟩
      exact run _ (fun hb => Itm.encA_big HP.out (by omega)) (fun hb => Itm.encA_ok HP.out ⟨by omega, by omega⟩)
end Go.Proofs.Ytbmohenjphmlgaa

/- Items that are handed in: each list in a row of its own with eight marked places behind it; storing an item into a row. -/
namespace Go.Proofs.Ytbmohenjphmlgaa
open Go.RowKit
set_option maxRecDepth 100000

/-- A row with its k-th three cells written. -/
def put3 (xs : List Value) (k : Nat) (a b c : Value) : List Value := ((xs.set (k * 3) a).set (k * 3 + 1) b).set (k * 3 + 2) c

theorem put3_len (xs : List Value) (k : Nat) (a b c : Value) : (put3 xs k a b c).length = xs.length := by simp [put3]

theorem tri_put_same (xs : List Value) (k : Nat) (a b c : Value) (h : k * 3 + 2 < xs.length) : tri (put3 xs k a b c) k = .agg #[a, b, c] := by
  unfold tri put3
  simp only [List.getD_eq_getElem?_getD]
  have e : 3 * k = k * 3 := Nat.mul_comm 3 k
  rw [e]
  simp only [List.getElem?_set, List.length_set]
  have l0 : k * 3 < xs.length := by omega
  have l1 : k * 3 + 1 < xs.length := by omega
  simp [l0, l1, h]

theorem tri_put_other (xs : List Value) (k i : Nat) (a b c : Value) (h : i ≠ k) : tri (put3 xs k a b c) i = tri xs i := by
  unfold tri put3
  simp only [List.getD_eq_getElem?_getD, List.getElem?_set]
  repeat rw [if_neg (by omega)]

theorem row_put {w : World} {g k : Nat} {xs : List Value} {E : TypeId} (h : w.heap[g]? = some (.cells xs.toArray E (0, 0))) (a b c : Value) :
    (((w.setCell ⟨g, k * 3, none⟩ a).setCell ⟨g, k * 3 + 1, none⟩ b).setCell ⟨g, k * 3 + 2, none⟩ c).heap[g]? = some (.cells (put3 xs k a b c).toArray E (0, 0)) := by
  have h1 := heap_setCell_same w g (k * 3) xs.toArray E a h
  have h2 := heap_setCell_same _ g (k * 3 + 1) _ E b h1
  have h3 := heap_setCell_same _ g (k * 3 + 2) _ E c h2
  rw [h3]
  simp [put3]

theorem put_other {w1 : World} {g k j : Nat} (h : k ≠ g) (a b c : Value) :
    (((w1.setCell ⟨g, j * 3, none⟩ a).setCell ⟨g, j * 3 + 1, none⟩ b).setCell ⟨g, j * 3 + 2, none⟩ c).heap[k]? = w1.heap[k]? := by
  rw [setCell_block _ _ _ _ h, setCell_block _ _ _ _ h, setCell_block _ _ _ _ h]

theorem put_size (w1 : World) (g j : Nat) (a b c : Value) :
    (((w1.setCell ⟨g, j * 3, none⟩ a).setCell ⟨g, j * 3 + 1, none⟩ b).setCell ⟨g, j * 3 + 2, none⟩ c).heap.size = w1.heap.size := by simp [World.setCell]

theorem put_below {B : Nat} {w w1 : World} (hb : Below B w w1) {g j : Nat} (hg : B ≤ g) (a b c : Value) :
    Below B w (((w1.setCell ⟨g, j * 3, none⟩ a).setCell ⟨g, j * 3 + 1, none⟩ b).setCell ⟨g, j * 3 + 2, none⟩ c) :=
  ((hb.setCell (p := ⟨g, j * 3, none⟩) hg a).setCell (p := ⟨g, j * 3 + 1, none⟩) hg b).setCell (p := ⟨g, j * 3 + 2, none⟩) hg c

theorem row_cell {w : World} {g : Nat} {xs : List Value} {E : TypeId} (h : w.heap[g]? = some (.cells xs.toArray E (0, 0))) (j : Nat) (hj : j < xs.length) : w.cell? ⟨g, j, none⟩ = some (xs.getD j default) := by
  rw [cell_of_row _ _ j _ _ _ h, List.getD_eq_getElem?_getD]
  simp [hj]

theorem row_frozen {w : World} {g : Nat} {xs : List Value} {E : TypeId} (h : w.heap[g]? = some (.cells xs.toArray E (0, 0))) (j : Nat) : w.frozen? ⟨g, j, none⟩ = false := frozen_of_row w g j _ E h

/-- The mark of spare room. -/
def bang : Value := .agg #[.bool false, .string ⟨#[33]⟩, .slice none 0 0]

/-- An item in lists of its own, each with eight marked places behind it. -/
def Hand (E : TypeId) (w : World) : Nat → Nat → Nat → Value → Itm → Prop
  | 0 => fun _ _ _ _ => False
  | n + 1 => fun lo hi v t => ∃ (g : Nat) (xs : List Value) (L H : Nat → Nat),
      v = .agg #[.bool t.list, .string ⟨t.bytes.toArray⟩, .slice (some ⟨g, 0, none⟩) t.items.length (t.items.length + 8)] ∧ lo ≤ g ∧ g < hi ∧
      w.heap[g]? = some (.cells xs.toArray E (0, 0)) ∧ xs.length = (t.items.length + 8) * 3 ∧
      (∀ i (h : i < t.items.length), lo ≤ L i ∧ H i ≤ hi ∧ (g < L i ∨ H i ≤ g) ∧ Hand E w n (L i) (H i) (tri xs i) t.items[i]) ∧
      (∀ i j, i < j → j < t.items.length → H i ≤ L j) ∧ (∀ i, t.items.length ≤ i → i < t.items.length + 8 → tri xs i = bang)

theorem hand_frame {E : TypeId} {w w' : World} : ∀ (n lo hi : Nat) (v : Value) (t : Itm), (∀ k, lo ≤ k → k < hi → w'.heap[k]? = w.heap[k]?) → Hand E w n lo hi v t → Hand E w' n lo hi v t := by
  intro n
  induction n with
  | zero => intro lo hi v t _ h; exact h
  | succ n ih =>
    intro lo hi v t hk h
    obtain ⟨g, xs, L, H, hv, h1, h2, h3, h4, h5, h6, h7⟩ := h
    refine ⟨g, xs, L, H, hv, h1, h2, by rw [hk g h1 h2]; exact h3, h4, fun i hi' => ?_, h6, h7⟩
    obtain ⟨q1, q2, q3, q4⟩ := h5 i hi'
    exact ⟨q1, q2, q3, ih _ _ _ _ (fun k a b => hk k (by omega) (by omega)) q4⟩

theorem hand_widen {E : TypeId} {w : World} {n lo hi lo' hi' : Nat} {v : Value} {t : Itm} (h : Hand E w n lo hi v t) (a : lo' ≤ lo) (b : hi ≤ hi') : Hand E w n lo' hi' v t := by
  cases n with
  | zero => exact h
  | succ n =>
    obtain ⟨g, xs, L, H, hv, h1, h2, h3, h4, h5, h6, h7⟩ := h
    refine ⟨g, xs, L, H, hv, by omega, by omega, h3, h4, fun i hi' => ?_, h6, h7⟩
    obtain ⟨q1, q2, q3, q4⟩ := h5 i hi'
    exact ⟨by omega, by omega, q3, q4⟩

theorem hand_shape {E : TypeId} {w : World} {n lo hi : Nat} {v : Value} {t : Itm} (h : Hand E w n lo hi v t) : ∃ g, v = .agg #[.bool t.list, .string ⟨t.bytes.toArray⟩, .slice (some ⟨g, 0, none⟩) t.items.length (t.items.length + 8)] := by
  cases n with
  | zero => exact h.elim
  | succ n => obtain ⟨g, xs, L, H, hv, _⟩ := h; exact ⟨g, hv⟩

theorem rep_of_hand {E : TypeId} {w : World} {B : Nat} : ∀ (n lo hi : Nat) (v : Value) (t : Itm), hi ≤ B → Itm.wt t ≤ 1000000000 → Hand E w n lo hi v t → Rep B w n v t := by
  intro n
  induction n with
  | zero => intro lo hi v t _ _ h; exact h
  | succ n ih =>
    intro lo hi v t hB hw h
    obtain ⟨g, xs, L, H, hv, h1, h2, h3, h4, h5, h6, h7⟩ := h
    have hlen : t.items.length ≤ maxLen := by
      have a := Itm.cntL_len t.items
      have b := Itm.cnt_le_wt t
      rw [Itm.cnt_eq] at b
      unfold Itm.cntL at a
      unfold maxLen
      omega
    refine ⟨some ⟨g, 0, none⟩, _, hv, hlen, fun i hi' => ?_⟩
    obtain ⟨q1, q2, q3, q4⟩ := h5 i hi'
    have c0 := row_cell h3 (3 * i) (by omega)
    have c1 := row_cell h3 (3 * i + 1) (by omega)
    have c2 := row_cell h3 (3 * i + 2) (by omega)
    have e : 0 + i * 3 = 3 * i := by omega
    refine ⟨g, 0, _, _, _, rfl, by omega, by rw [e]; exact c0, by rw [e]; exact c1, by rw [e]; exact c2, ih _ _ _ _ (by omega) ?_ q4⟩
    have := Itm.kid_wt t i hi'
    omega

end Go.Proofs.Ytbmohenjphmlgaa

/- The walk of handedItem (of the statements' own): the same item in lists of its own, each with eight marked places behind it. -/
namespace Go.Proofs.Ytbmohenjphmlgaa
open Go.RowKit
set_option maxRecDepth 100000

/-- What holds of the row while it is filled: the first k items are there. -/
def Fill (E : TypeId) (n : Nat) (t : Itm) (g base k : Nat) (wr : World) (xs : List Value) (L H : Nat → Nat) : Prop :=
  wr.heap[g]? = some (.cells xs.toArray E (0, 0)) ∧ xs.length = (t.items.length + 8) * 3 ∧
  (∀ i (h : i < t.items.length), i < k → base ≤ L i ∧ H i ≤ wr.heap.size ∧ g < L i ∧ Hand E wr n (L i) (H i) (tri xs i) t.items[i]) ∧ (∀ i j, i < j → j < k → j < t.items.length → H i ≤ L j) ∧
  (∀ i, t.items.length ≤ i → i < k → tri xs i = bang)

theorem fill_item {E : TypeId} {n : Nat} {t : Itm} {g base k : Nat} {wr w1 : World} {xs : List Value} {L H : Nat → Nat} {a b c : Value} (h : Fill E n t g base k wr xs L H) (hk : k < t.items.length) (hg : g < wr.heap.size) (hb0 : base ≤ wr.heap.size)
    (hb : Below wr.heap.size wr w1) (hy : Hand E w1 n wr.heap.size w1.heap.size (.agg #[a, b, c]) t.items[k]) :
    ∃ xs' L' H', Fill E n t g base (k + 1) (((w1.setCell ⟨g, k * 3, none⟩ a).setCell ⟨g, k * 3 + 1, none⟩ b).setCell ⟨g, k * 3 + 2, none⟩ c) xs' L' H' := by
  obtain ⟨h1, h2, h3, h4, h5⟩ := h
  have hsz := hb.size
  refine ⟨put3 xs k a b c, fun i => if i = k then wr.heap.size else L i, fun i => if i = k then w1.heap.size else H i, ?_, ?_, ?_, ?_, ?_⟩
  · exact row_put (by rw [hb.block g hg]; exact h1) a b c
  · rw [put3_len]; exact h2
  · intro i hi hik
    rw [put_size]
    by_cases he : i = k
    · subst he
      simp only [if_true]
      refine ⟨hb0, Nat.le_refl _, hg, ?_⟩
      rw [tri_put_same xs i a b c (by omega)]
      exact hand_frame _ _ _ _ _ (fun j hj _ => put_other (by omega) a b c) hy
    · simp only [if_neg he]
      obtain ⟨q1, q2, q3, q4⟩ := h3 i hi (by omega)
      refine ⟨q1, by omega, q3, ?_⟩
      rw [tri_put_other xs k i a b c he]
      refine hand_frame _ _ _ _ _ (fun j hj1 hj2 => ?_) q4
      rw [put_other (by omega) a b c]
      exact hb.block j (by omega)
  · intro i j hij hj hjl
    by_cases he : j = k
    · subst he
      simp only [if_true, if_neg (show i ≠ j by omega)]
      exact (h3 i (by omega) (by omega)).2.1
    · simp only [if_neg he, if_neg (show i ≠ k by omega)]
      exact h4 i j hij (by omega) hjl
  · intro i hi hik
    omega

theorem fill_bang {E : TypeId} {n : Nat} {t : Itm} {g base k : Nat} {wr : World} {xs : List Value} {L H : Nat → Nat} (h : Fill E n t g base k wr xs L H) (hk : t.items.length ≤ k) (hk2 : k < t.items.length + 8) :
    ∃ xs', Fill E n t g base (k + 1) (((wr.setCell ⟨g, k * 3, none⟩ (.bool false)).setCell ⟨g, k * 3 + 1, none⟩ (.string ⟨#[33]⟩)).setCell ⟨g, k * 3 + 2, none⟩ (.slice none 0 0)) xs' L H := by
  obtain ⟨h1, h2, h3, h4, h5⟩ := h
  refine ⟨put3 xs k (.bool false) (.string ⟨#[33]⟩) (.slice none 0 0), row_put h1 _ _ _, by rw [put3_len]; exact h2, ?_, fun i j hij hj hjl => h4 i j hij (by omega) hjl, ?_⟩
  · intro i hi _
    rw [put_size]
    obtain ⟨q1, q2, q3, q4⟩ := h3 i hi (by omega)
    refine ⟨q1, q2, q3, ?_⟩
    rw [tri_put_other _ _ _ _ _ _ (by omega)]
    exact hand_frame _ _ _ _ _ (fun j hj1 hj2 => put_other (by omega) _ _ _) q4
  · intro i hi hik
    by_cases he : i = k
    · subst he
      rw [tri_put_same _ _ _ _ _ (by omega)]
      rfl
    · rw [tri_put_other _ _ _ _ _ _ he]
      exact h5 i hi (by omega)

theorem items_wt (t : Itm) : 10 * t.items.length + 10 ≤ Itm.wt t := by
  have : ∀ l : List Itm, 10 * l.length ≤ (l.map Itm.wt).sum := by
    intro l
    induction l with
    | nil => simp
    | cons x l ihl => simp only [List.length_cons, List.map_cons, List.sum_cons]; have := Itm.wt_eq x; omega
  have := this t.items
  rw [Itm.wt_eq]; omega

/-- The cells of a row that lay there before a call lie there behind it. -/
theorem fill_cells {E : TypeId} {n : Nat} {t : Itm} {g base k j : Nat} {wr w1 : World} {xs : List Value} {L H : Nat → Nat} (h : Fill E n t g base k wr xs L H) (hj : j < t.items.length + 8) (hb : w1.heap[g]? = wr.heap[g]?) :
    (∃ u, w1.cell? ⟨g, j * 3, none⟩ = some u) ∧ (∃ u, w1.cell? ⟨g, j * 3 + 1, none⟩ = some u) ∧ (∃ u, w1.cell? ⟨g, j * 3 + 2, none⟩ = some u) ∧
    w1.frozen? ⟨g, j * 3, none⟩ = false ∧ w1.frozen? ⟨g, j * 3 + 1, none⟩ = false ∧ w1.frozen? ⟨g, j * 3 + 2, none⟩ = false := by
  have h1 : w1.heap[g]? = some (.cells xs.toArray E (0, 0)) := by rw [hb]; exact h.1
  have h2 := h.2.1
  exact ⟨⟨_, row_cell h1 _ (by omega)⟩, ⟨_, row_cell h1 _ (by omega)⟩, ⟨_, row_cell h1 _ (by omega)⟩, row_frozen h1 _, row_frozen h1 _, row_frozen h1 _⟩

theorem hand_of_fill {E : TypeId} {n : Nat} {t : Itm} {j : Nat} {w wr : World} {xs : List Value} {L H : Nat → Nat} (h : Fill E n t (w.heap.size + 1 + 1) (w.heap.size + 1 + 1 + 1) j wr xs L H) (hj : j = t.items.length + 8) (hs : w.heap.size + 1 + 1 + 1 ≤ wr.heap.size) (x y z : Value) :
    Hand E (((wr.setCell ⟨w.heap.size + 1, 0, none⟩ x).setCell ⟨w.heap.size + 1, 1, none⟩ y).setCell ⟨w.heap.size + 1, 2, none⟩ z).drew (n + 1) w.heap.size (((wr.setCell ⟨w.heap.size + 1, 0, none⟩ x).setCell ⟨w.heap.size + 1, 1, none⟩ y).setCell ⟨w.heap.size + 1, 2, none⟩ z).drew.heap.size
      (.agg #[.bool t.list, .string ⟨t.bytes.toArray⟩, .slice (some ⟨w.heap.size + 1 + 1, 0, none⟩) t.items.length (t.items.length + 8)]) t := by
  subst hj
  obtain ⟨h1, h2, h3, h4, h5⟩ := h
  have hsz : (((wr.setCell ⟨w.heap.size + 1, 0, none⟩ x).setCell ⟨w.heap.size + 1, 1, none⟩ y).setCell ⟨w.heap.size + 1, 2, none⟩ z).drew.heap.size = wr.heap.size := box_size wr _ x y z
  have hfr : ∀ k, k ≠ w.heap.size + 1 → (((wr.setCell ⟨w.heap.size + 1, 0, none⟩ x).setCell ⟨w.heap.size + 1, 1, none⟩ y).setCell ⟨w.heap.size + 1, 2, none⟩ z).drew.heap[k]? = wr.heap[k]? := fun k hk => box_other hk x y z
  rw [hsz]
  refine ⟨w.heap.size + 1 + 1, xs, L, H, rfl, by omega, by omega, by rw [hfr _ (by omega)]; exact h1, h2, fun i hi => ?_, fun i j hij hj => h4 i j hij (by omega) hj, fun i hi hi2 => h5 i hi hi2⟩
  obtain ⟨q1, q2, q3, q4⟩ := h3 i hi (by omega)
  exact ⟨by omega, q2, .inl q3, hand_frame _ _ _ _ _ (fun k hk _ => hfr k (by omega)) q4⟩

set_option maxHeartbeats 1600000 in
theorem handed_any (n : Nat) : ∀ (v : Value) (t : Itm) (w : World), Rep w.heap.size w n v t → Itm.wt t ≤ 1000000000 →
    Calls Try.prog 12 #[v] w fun e w' => ∃ v', e = .returned v' ∧ Hand 24 w' n w.heap.size w'.heap.size v' t ∧ Below w.heap.size w w' := by
  induction n with
  | zero => intro v t w h; exact h.elim
  | succ n ih =>
    intro v t w hrep hwt
    obtain ⟨a, cap, rfl, hm, hkids⟩ := hrep
    obtain ⟨i0, hi, hz0, hz1, hz2⟩ := info_parts infoItem
    have hlen : t.items.length ≤ 100000000 := by have := items_wt t; omega
    have HK := hid hkids
    have IH := hid ih
    have HWT := hid hwt
    clear hkids ih hwt
    have hby : i0.bytes * (t.items.length + 8) ≤ 281474976710656 := by rw [hz2]; omega
    have hml : t.items.length + 8 ≤ maxLen := by unfold maxLen; omega
    have HN : Hid ((t.items.length : Int) + 8 = ((t.items.length + 8 : Nat) : Int)) := by show _ = _; omega
    have hbase : ((w.alloc (.cells #[.bool t.list, .string ⟨t.bytes.toArray⟩, .slice a t.items.length cap] 24)).alloc (.cells #[.bool false, .string ⟨#[]⟩, .slice none 0 0] 24)).heap.size ≤ ((w.alloc (.cells #[.bool t.list, .string ⟨t.bytes.toArray⟩, .slice a t.items.length cap] 24)).alloc (.cells #[.bool false, .string ⟨#[]⟩, .slice none 0 0] 24)).heap.size := Nat.le_refl _
    go_enter Try.func12, Try.ntmps12
    go_wp2_with (at_make; refine wpList_make_full _ rfl (.tmp 11) (.tmp 11) 22 rfl _ 24 i0 _ 3 Try.underlying22 hi hz0 hz1 .i64 .i64 _ _ (t.items.length + 8) rfl rfl HN.out HN.out hby hml hbase ?_; intro w1 hrow hgr)
    have HF : Hid (∃ xs L H, Fill 24 n t (w.heap.size + 1 + 1) (w.heap.size + 1 + 1 + 1) 0 w1 xs L H) := by
      rcases hrow.2 with ⟨h', _⟩ | ⟨g', cap', cur, h', _, hg, _, _, hcs, _⟩
      · simp at h'
      · simp only [Value.slice.injEq, Option.some.injEq, Addr.mk.injEq, and_true, true_and] at h'
        obtain ⟨rfl, rfl⟩ := h'
        refine ⟨cur.toList, fun _ => 0, fun _ => 0, by simpa using hg, by simpa using hcs, fun i _ h => by omega, fun i j _ h => by omega, fun i _ h => by omega⟩
    have HG : Hid (Below ((w.alloc (.cells #[.bool t.list, .string ⟨t.bytes.toArray⟩, .slice a t.items.length cap] 24)).alloc (.cells #[.bool false, .string ⟨#[]⟩, .slice none 0 0] 24)).heap.size ((w.alloc (.cells #[.bool t.list, .string ⟨t.bytes.toArray⟩, .slice a t.items.length cap] 24)).alloc (.cells #[.bool false, .string ⟨#[]⟩, .slice none 0 0] 24)) w1) := ⟨hgr.os, hgr.tape, hgr.output, hgr.size, fun k hk => hgr.block k hk (by simp)⟩
    have HS1 : Hid (w.heap.size + 1 + 1 + 1 ≤ w1.heap.size) := by
      have := (hrow.lt _ rfl).2
      simp at this
      exact this
    clear hrow hgr hbase hby hml
    go_loopw [5] (fun i wr => ∃ (k : Nat) (xs : List Value) (L H : Nat → Nat), i = .int .i64 k ∧ k ≤ t.items.length ∧ Hid (Fill 24 n t (w.heap.size + 1 + 1) (w.heap.size + 1 + 1 + 1) k wr xs L H ∧ w.heap.size + 1 + 1 + 1 ≤ wr.heap.size ∧ Below ((w.alloc (.cells #[.bool t.list, .string ⟨t.bytes.toArray⟩, .slice a t.items.length cap] 24)).alloc (.cells #[.bool false, .string ⟨#[]⟩, .slice none 0 0] 24)).heap.size ((w.alloc (.cells #[.bool t.list, .string ⟨t.bytes.toArray⟩, .slice a t.items.length cap] 24)).alloc (.cells #[.bool false, .string ⟨#[]⟩, .slice none 0 0] 24)) wr)) (fun i _ => t.items.length - (intOf i).toNat)
    case atStart =>
      obtain ⟨xs, L, H, hf⟩ := HF.out
      exact ⟨0, xs, L, H, rfl, Nat.zero_le _, hf, HS1.out, HG.out⟩
    case round =>
      obtain ⟨k, xs, L, H, rfl, hk, HH⟩ := hrel
      have x2 : wr.cell? ⟨w.heap.size, 2, none⟩ = some (.slice a t.items.length cap) := by
        rw [HH.out.2.2.cell (p := ⟨w.heap.size, 2, none⟩) (by simp; omega)]; simp
      have HB0 : Hid (Below w.heap.size w wr) := (((Below.refl _ _).alloc (Nat.le_refl _) _).alloc (by simp) _).trans (HH.out.2.2.mono (by simp; omega))
      by_cases hlt : k < t.items.length
      · obtain ⟨b, off, c0, c1, c2, rfl, hbl, e0, e1, e2, hr⟩ := HK.out k hlt
        obtain ⟨a2, cap2, rfl, rfl, rfl⟩ := rep_shape hr
        have f0 := (HB0.out.cell (p := ⟨b, off + k * 3, none⟩) hbl).trans e0
        have f1 := (HB0.out.cell (p := ⟨b, off + k * 3 + 1, none⟩) hbl).trans e1
        have f2 := (HB0.out.cell (p := ⟨b, off + k * 3 + 2, none⟩) hbl).trans e2
        have HR := hid hr
        have hkw : Itm.wt t.items[k] ≤ 1000000000 := by have := Itm.kid_wt t k hlt; have := HWT.out; omega
        clear e0 e1 e2 hr
        go_wp2_with fail
        refine (IH.out _ t.items[k] _ (rep_in HR.out HB0.out) hkw).mono ?_
        rintro e w2 ⟨v', rfl, hhand, hbel⟩
        obtain ⟨g3, rfl⟩ := hand_shape hhand
        have HHD := hid hhand
        have HB2 := hid hbel
        obtain ⟨⟨u0, r0⟩, ⟨u1, r1⟩, ⟨u2, r2⟩, z0, z1, z2⟩ := fill_cells (j := k) HH.out.1 (by omega) (hbel.block _ (by have := HH.out.2.1; omega))
        clear hhand hbel
        go_wp2_with fail
        obtain ⟨xs', L', H', hf'⟩ := fill_item HH.out.1 hlt (by have := HH.out.2.1; omega) HH.out.2.1 HB2.out HHD.out
        refine ⟨⟨k + 1, xs', L', H', by go_num, by omega, hf', ?_, ?_⟩, by simp [intOf]; omega⟩
        · rw [put_size]; exact Nat.le_trans HH.out.2.1 HB2.out.size
        · exact put_below (HH.out.2.2.trans (HB2.out.mono (by have := HH.out.2.1; simp; omega))) (by simp) _ _ _
      · have HKE := hid (show k = t.items.length by omega)
        go_wp2_with fail
        go_loopw [6] (fun i wi => ∃ (j : Nat) (xs : List Value), i = .int .i64 j ∧ j ≤ t.items.length + 8 ∧ Hid (t.items.length ≤ j ∧ Fill 24 n t (w.heap.size + 1 + 1) (w.heap.size + 1 + 1 + 1) j wi xs L H ∧ w.heap.size + 1 + 1 + 1 ≤ wi.heap.size ∧ Below ((w.alloc (.cells #[.bool t.list, .string ⟨t.bytes.toArray⟩, .slice a t.items.length cap] 24)).alloc (.cells #[.bool false, .string ⟨#[]⟩, .slice none 0 0] 24)).heap.size ((w.alloc (.cells #[.bool t.list, .string ⟨t.bytes.toArray⟩, .slice a t.items.length cap] 24)).alloc (.cells #[.bool false, .string ⟨#[]⟩, .slice none 0 0] 24)) wi)) (fun i _ => t.items.length + 8 - (intOf i).toNat)
        case atStart => exact ⟨t.items.length, xs, rfl, by omega, Nat.le_refl _, by have := HH.out.1; rw [HKE.out] at this; exact this, HH.out.2⟩
        case round =>
          obtain ⟨j, xs2, rfl, hj, HJ⟩ := hrel
          by_cases hlt2 : j < t.items.length + 8
          · have hlt2' : (j : Int) < (t.items.length : Int) + 8 := by omega
            obtain ⟨⟨u0, r0⟩, ⟨u1, r1⟩, ⟨u2, r2⟩, z0, z1, z2⟩ := fill_cells (j := j) HJ.out.2.1 hlt2 rfl
            go_wp2_with fail
            obtain ⟨xs', hf'⟩ := fill_bang HJ.out.2.1 HJ.out.1 hlt2
            refine ⟨⟨j + 1, xs', by go_num, by omega, by have := HJ.out.1; omega, hf', ?_, ?_⟩, by simp [intOf]; omega⟩
            · rw [put_size]; exact HJ.out.2.2.1
            · exact put_below HJ.out.2.2.2 (by simp) _ _ _
          · have hlt2' : ¬ (j : Int) < (t.items.length : Int) + 8 := by omega
            have HJE := hid (show j = t.items.length + 8 by omega)
            obtain ⟨hcc, hff⟩ := bcell HJ.out.2.2.2
            go_wp2_with fail
            go_region
            go_wp2_with fail
            have hblk : wr.heap[w.heap.size + 1]? = some (.cells #[.bool false, .string ⟨#[]⟩, .slice none 0 0] 24 (0, 0)) := by
              rw [HJ.out.2.2.2.block _ (by simp)]
              have := heap_alloc_new (w.alloc (.cells #[.bool t.list, .string ⟨t.bytes.toArray⟩, .slice a t.items.length cap] 24)) (.cells #[.bool false, .string ⟨#[]⟩, .slice none 0 0] 24)
              simpa using this
            obtain ⟨c0, c1, c2⟩ := set3 hblk (.bool t.list) (.string ⟨t.bytes.toArray⟩) (.slice (some ⟨w.heap.size + 1 + 1, 0, none⟩) t.items.length (t.items.length + 8))
            have hHand := hand_of_fill (w := w) (j := j) HJ.out.2.1 HJE.out HJ.out.2.2.1 (.bool t.list) (.string ⟨t.bytes.toArray⟩) (.slice (some ⟨w.heap.size + 1 + 1, 0, none⟩) t.items.length (t.items.length + 8))
            refine bodyPost_ret (v := .agg #[.bool t.list, .string ⟨t.bytes.toArray⟩, .slice (some ⟨w.heap.size + 1 + 1, 0, none⟩) t.items.length (t.items.length + 8)]) (by simp [results, Try.results12, go_sem, c0, c1, c2]) rfl ⟨_, rfl, hHand, ?_⟩
            have hb0 : Below w.heap.size w wr := (((Below.refl _ _).alloc (Nat.le_refl _) _).alloc (by simp) _).trans (HJ.out.2.2.2.mono (by simp; omega))
            exact (((hb0.setCell (p := ⟨w.heap.size + 1, 0, none⟩) (by simp) _).setCell (p := ⟨w.heap.size + 1, 1, none⟩) (by simp) _).setCell (p := ⟨w.heap.size + 1, 2, none⟩) (by simp) _).drew
end Go.Proofs.Ytbmohenjphmlgaa
