/- The walks of the document's own Bytes, headed, high: an item's bytes as 'enc' says. -/
import Derived.Test.YtplfjengfhijhaaEncode
namespace Go.Proofs.Ytplfjengfhijhaa
open Go.RowKit

theorem u8_mod (n : Nat) : (((UInt8.ofNat (n % 256)).toNat : Nat) : Int) = (n : Int) % 256 := by simp

/-- A slice of one byte, made into a string. -/
theorem run_one_byte (w : World) (z : Int) (c : UInt8) (h : ((c.toNat : Nat) : Int) = z) : (convert 59 9 (.slice (some ⟨w.heap.size, 0, none⟩) 1 1)).run Try.prog (w.alloc (.cells #[.int .u8 z] 5)) = .ok (.string ⟨#[c]⟩) (w.alloc (.cells #[.int .u8 z] 5)) := by
  subst h
  have := run_bytes_string (brd_of_bown (bown_one w w.heap.size c (Nat.le_refl _)))
  exact this

theorem u8_tmod (n : Nat) : (((UInt8.ofNat (n % 256)).toNat : Nat) : Int) = IntKind.u8.wrap ((n : Int).tmod 256) := by
  have h1 : (n : Int).tmod 256 = (n : Int) % 256 := Int.tmod_eq_emod_of_nonneg (by omega)
  rw [h1, u8_mod]
  simp [IntKind.wrap, IntKind.bits, IntKind.signed]

theorem run_one_later (w w1 : World) (z : Int) (c : UInt8) (h : ((c.toNat : Nat) : Int) = z) (hb : Below (w.alloc (.cells #[.int .u8 z] 5)).drew.heap.size (w.alloc (.cells #[.int .u8 z] 5)).drew w1) :
    (convert 59 9 (.slice (some ⟨w.heap.size, 0, none⟩) 1 1)).run Try.prog w1 = .ok (.string ⟨#[c]⟩) w1 := by
  subst h
  have h1 := brd_of_bown (bown_one w w.heap.size c (Nat.le_refl _))
  exact run_bytes_string (brd_in h1 (below_undrew hb))

set_option maxRecDepth 100000 in
set_option maxHeartbeats 800000 in
theorem high_any (n : Nat) : ∀ (w : World), n ≤ 1000000000 → Calls Try.prog 44 #[.int .i64 n] w fun e w' => e = .returned (.string ⟨(Itm.be n).toArray⟩) ∧ Below w.heap.size w w' := by
  induction n using Nat.strongRecOn with
  | _ n ih =>
    intro w hn
    by_cases h : n < 256
    · have HB := hid (Itm.be_small h)
      have h' : (n : Int) < 256 := by omega
      have hcv := fun w => run_one_byte w (n : Int) (UInt8.ofNat n) (by simp; omega)
      go_enter Try.func44, Try.ntmps44
      go_wp2_with fail
      go_ret
      exact ⟨by rw [HB.out]; rfl, (Below.refl _ _).alloc (Nat.le_refl _) _⟩
    · have HB := hid (Itm.be_large h)
      have h' : ¬ (n : Int) < 256 := by omega
      have hcv := fun w => run_one_byte w (IntKind.u8.wrap ((n : Int).tmod 256)) (UInt8.ofNat (n % 256)) (u8_tmod n)
      have hcv2 := fun w w1 hb => run_one_later w w1 (IntKind.u8.wrap ((n : Int).tmod 256)) (UInt8.ofNat (n % 256)) (u8_tmod n) hb
      have HCV2 := hid hcv2
      have hcv4 := fun w => run_one_later w _ (IntKind.u8.wrap ((n : Int).tmod 256)) (UInt8.ofNat (n % 256)) (u8_tmod n) (Below.refl _ _)
      clear hcv2
      have HC : Hid (∀ w, Calls Try.prog 44 #[.int .i64 (IntKind.i64.wrap ((n : Int) / 256))] w fun e w' => e = .returned (.string ⟨(Itm.be (n / 256)).toArray⟩) ∧ Below w.heap.size w w') := fun w => by
        have := ih (n / 256) (by omega) w (by omega)
        rwa [show ((n / 256 : Nat) : Int) = IntKind.i64.wrap ((n : Int) / 256) by rw [show IntKind.i64.wrap ((n : Int) / 256) = (n : Int) / 256 from wrap_small _ (by omega) (by omega)]; omega] at this
      have hbl := Itm.be_len_le (n / 256) 8 (by omega) (by omega)
      generalize Itm.be (n / 256) = bl at *
      clear ih
      go_enter Try.func44, Try.ntmps44
      go_wp2_with fail
      go_region_with (go_at_call 44; refine (HC.out _).mono ?_; rintro e w1 ⟨rfl, hbel⟩; try have hcv3 := HCV2.out _ _ hbel)
      all_goals
        go_wp2_with fail
        go_ret
        refine ⟨?_, ?_⟩
        · rw [HB.out]
          exact congrArg (fun x => Ending.returned (.string x)) (by apply ByteArray.ext; simp)
        · first
            | exact (below_undrew hbel).alloc (below_undrew hbel).size _
            | exact ((Below.refl _ _).alloc (Nat.le_refl _) _).trans ((below_undrew hbel).mono (by simp))

theorem ba_append (a b : List UInt8) : (({ data := a.toArray } : ByteArray) ++ { data := b.toArray }) = ⟨(a ++ b).toArray⟩ := by apply ByteArray.ext; simp

set_option maxRecDepth 100000 in
set_option maxHeartbeats 800000 in
theorem headedR_any (l : List UInt8) (base : Nat) (w : World) (hb : base + 63 < 256) (hl : l.length ≤ 1000000000) :
    Calls Try.prog 34 #[.string ⟨l.toArray⟩, .int .i64 base] w fun e w' => e = .returned (.string ⟨(Itm.headed base l).toArray⟩) ∧ Below w.heap.size w w' := by
  by_cases h : l.length ≤ 55
  · have h' : (l.length : Int) ≤ 55 := by omega
    have HB : Hid (Itm.headed base l = UInt8.ofNat (base + l.length) :: l) := by unfold Itm.headed Itm.head; rw [if_pos h]; rfl
    have hcv := fun w => run_one_byte w ((base : Int) + (l.length : Int)) (UInt8.ofNat (base + l.length)) (u8_add base l.length (by omega))
    go_enter Try.func34, Try.ntmps34
    go_wp2_with fail
    go_ret
    refine ⟨?_, (Below.refl _ _).alloc (Nat.le_refl _) _⟩
    rw [HB.out]
    exact congrArg (fun x => Ending.returned (.string x)) (by apply ByteArray.ext; simp)
  · have h' : ¬ (l.length : Int) ≤ 55 := by omega
    have HB : Hid (Itm.headed base l = UInt8.ofNat (base + 55 + (Itm.be l.length).length) :: (Itm.be l.length ++ l)) := by unfold Itm.headed Itm.head; rw [if_neg h]; rfl
    have hbl := Itm.be_len_le l.length 8 (by omega) (by omega)
    have HC := hid (fun w => high_any l.length w hl)
    have hcv := fun w => run_one_byte w ((base : Int) + 55 + ((Itm.be l.length).length : Int)) (UInt8.ofNat (base + 55 + (Itm.be l.length).length)) (u8_add (base + 55) (Itm.be l.length).length (by omega))
    generalize Itm.be l.length = bl at *
    go_enter Try.func34, Try.ntmps34
    go_wp2_with fail
    refine (HC.out _).mono ?_
    rintro e w1 ⟨rfl, hbel⟩
    go_wp2_with fail
    go_ret
    refine ⟨?_, hbel.alloc hbel.size _⟩
    rw [HB.out]
    exact congrArg (fun x => Ending.returned (.string x)) (by apply ByteArray.ext; simp)

namespace Itm
/-- A measure of an item: its bytes, and ten for each item in it. -/
def wt : Itm → Nat
  | ⟨_, b, is⟩ => b.length + 10 + (is.attach.map fun ⟨x, _⟩ => wt x).sum

theorem wt_eq (t : Itm) : wt t = t.bytes.length + 10 + (t.items.map wt).sum := by
  obtain ⟨l, b, is⟩ := t
  simp [wt]

theorem mem_wt {x : Itm} {l : List Itm} (h : x ∈ l) : wt x ≤ (l.map wt).sum := by
  induction l with
  | nil => simp at h
  | cons y l ih =>
    simp only [List.map_cons, List.sum_cons]
    rcases List.mem_cons.1 h with rfl | h
    · omega
    · have := ih h; omega

theorem kid_wt (t : Itm) (k : Nat) (h : k < t.items.length) : wt t.items[k] < wt t := by
  have := mem_wt (List.getElem_mem h)
  rw [wt_eq t]; omega

theorem cnt_le_wt (t : Itm) : cnt t ≤ wt t := by
  refine ind (p := fun t => cnt t ≤ wt t) ?_ t
  intro t ih
  rw [cnt_eq, wt_eq]
  have : ∀ l : List Itm, (∀ x ∈ l, cnt x ≤ wt x) → (l.map cnt).sum ≤ (l.map wt).sum := by
    intro l
    induction l with
    | nil => intro _; simp
    | cons x l ihl =>
      intro hx
      have a1 := hx x (by simp)
      have a2 := ihl (fun y hy => hx y (by simp [hy]))
      simp only [List.map_cons, List.sum_cons]; omega
  have := this t.items ih
  omega

theorem enc_le_wt (t : Itm) : wt t ≤ 1000000000 → (enc t).length ≤ wt t := by
  refine ind (p := fun t => wt t ≤ 1000000000 → (enc t).length ≤ wt t) ?_ t
  intro t ih hw
  rw [wt_eq] at hw ⊢
  rw [enc_eq]
  by_cases hl : t.list
  · rw [if_pos hl]
    have : ∀ l : List Itm, (l.map wt).sum ≤ 1000000000 → (∀ x ∈ l, wt x ≤ 1000000000 → (enc x).length ≤ wt x) → (l.flatMap enc).length ≤ (l.map wt).sum := by
      intro l
      induction l with
      | nil => intro _ _; simp
      | cons x l ihl =>
        intro hs hx
        simp only [List.map_cons, List.sum_cons] at hs
        have a1 := hx x (by simp) (by omega)
        have a2 := ihl (by omega) (fun y hy => hx y (by simp [hy]))
        simp only [List.map_cons, List.sum_cons, List.flatMap_cons, List.length_append]; omega
    have h1 := this t.items (by omega) ih
    unfold headed
    have h2 := head_len 192 (t.items.flatMap enc).length (by omega)
    rw [List.length_append]; omega
  · rw [if_neg hl]
    unfold encB
    split
    · omega
    · unfold headed
      have h2 := head_len 128 t.bytes.length (by omega)
      rw [List.length_append]; omega
end Itm

theorem stands_list (l : List UInt8) (h : l.length = 1) : Itm.stands l = decide ((l.getD 0 0).toNat < 128) := by
  unfold Itm.stands; rw [h]; simp

set_option maxRecDepth 100000 in
set_option maxHeartbeats 800000 in
theorem bytesR_leaf (t : Itm) (w : World) (a : Option Addr) (cap : Nat) (hl : t.list = false) (hw : t.bytes.length ≤ 1000000000) :
    Calls Try.prog 23 #[.agg #[.bool t.list, .string ⟨t.bytes.toArray⟩, .slice a t.items.length cap]] w fun e w' => e = .returned (.string ⟨(Itm.enc t).toArray⟩) ∧ Below w.heap.size w w' := by
  have he : Itm.enc t = Itm.encB t.bytes := by rw [Itm.enc_eq, hl]; rfl
  rw [hl, he]
  clear he hl
  unfold Itm.encB
  generalize t.items.length = m
  have HC := hid (fun w => headedR_any t.bytes 128 w (by omega) hw)
  obtain ⟨s, hs⟩ : ∃ s : ByteArray, s = ⟨t.bytes.toArray⟩ := ⟨_, rfl⟩
  have hl : t.bytes = s.data.toList := by rw [hs]
  rw [← hs] at HC ⊢
  rw [hl] at HC ⊢
  clear hl hs hw
  by_cases h1 : s.size = 1
  · have hlt : 0 < s.size := by omega
    have hb : ((s.size : Int) == 1) = true := by simp; omega
    have hst := stands_eq s
    rw [ba_getD s hlt, decide_eq_true h1, Bool.true_and] at hst
    clear h1
    by_cases h2 : s[0].toNat < 128
    · rw [decide_eq_true h2] at hst
      rw [if_pos hst]
      have h2' : (s[0].toNat : Int) < 128 := by omega
      clear hst
      go_enter Try.func23, Try.ntmps23
      go_wp2_with fail
      go_ret
      exact ⟨rfl, (Below.refl _ _).alloc (Nat.le_refl _) _⟩
    · rw [decide_eq_false h2] at hst
      rw [if_neg (by rw [hst]; simp)]
      have h2' : ¬ (s[0].toNat : Int) < 128 := by omega
      clear hst
      go_enter Try.func23, Try.ntmps23
      go_wp2_with fail
      refine (HC.out _).mono ?_
      rintro e w1 ⟨rfl, hbel⟩
      go_wp2_with fail
      go_ret
      exact ⟨rfl, ((Below.refl _ _).alloc (Nat.le_refl _) _).trans (hbel.mono (by simp))⟩
  · have hst : Itm.stands s.data.toList = false := by rw [stands_eq]; simp [h1]
    rw [if_neg (by rw [hst]; simp)]
    have h1' : ((s.size : Int) == 1) = false := by simp; omega
    clear hst
    go_enter Try.func23, Try.ntmps23
    go_wp2_with fail
    refine (HC.out _).mono ?_
    rintro e w1 ⟨rfl, hbel⟩
    go_wp2_with fail
    go_ret
    exact ⟨rfl, ((Below.refl _ _).alloc (Nat.le_refl _) _).trans (hbel.mono (by simp))⟩

/-- The box of a parameter, kept while nothing below it is written. -/
theorem box_third {w wr : World} {x y z : Value} (hb : Below (w.alloc (.cells #[x, y, z] 24)).heap.size (w.alloc (.cells #[x, y, z] 24)) wr) :
    wr.cell? ⟨w.heap.size, 0, none⟩ = some x ∧ wr.cell? ⟨w.heap.size, 1, none⟩ = some y ∧ wr.cell? ⟨w.heap.size, 2, none⟩ = some z := by
  have h := old_block hb
  exact ⟨by rw [cell_of_row _ _ 0 _ _ _ h]; rfl, by rw [cell_of_row _ _ 1 _ _ _ h]; rfl, by rw [cell_of_row _ _ 2 _ _ _ h]; rfl⟩

theorem below_of_box {w wr : World} {O : Obj} (hb : Below (w.alloc O).heap.size (w.alloc O) wr) : Below w.heap.size w wr :=
  ((Below.refl _ _).alloc (Nat.le_refl _) _).trans (hb.mono (by simp))

set_option maxRecDepth 100000 in
set_option maxHeartbeats 800000 in
theorem bytesR_any (n : Nat) : ∀ (v : Value) (t : Itm) (w : World), Rep w.heap.size w n v t → Itm.wt t ≤ 1000000000 →
    Calls Try.prog 23 #[v] w fun e w' => e = .returned (.string ⟨(Itm.enc t).toArray⟩) ∧ Below w.heap.size w w' := by
  induction n with
  | zero => intro v t w h; exact h.elim
  | succ n ih =>
    intro v t w hrep hwt
    obtain ⟨a, cap, rfl, hm, hkids⟩ := hrep
    by_cases hl : t.list
    · have hl' : t.list = true := hl
      have HK := hid hkids
      have IH := hid ih
      have HWT := hid hwt
      have HL := hid hl'
      have HW := hid (fun (l : List UInt8) (w : World) h => headedR_any l 192 w (by omega) h)
      clear hkids ih hwt hl
      unfold maxLen at hm
      rw [hl']
      clear hl'
      go_enter Try.func23, Try.ntmps23
      go_wp2_with fail
      go_loopw [3, 4] (fun s i wr => ∃ k : Nat, k ≤ t.items.length ∧ i = .int .i64 k ∧ s = .string ⟨(encTo t k).toArray⟩ ∧ Hid (Below (w.alloc (.cells #[.bool true, .string ⟨t.bytes.toArray⟩, .slice a t.items.length cap] 24)).heap.size (w.alloc (.cells #[.bool true, .string ⟨t.bytes.toArray⟩, .slice a t.items.length cap] 24)) wr)) (fun _ i _ => t.items.length - (intOf i).toNat)
      case atStart => exact ⟨0, Nat.zero_le _, rfl, by rw [encTo_zero], Below.refl _ _⟩
      case round =>
        obtain ⟨k, hk, rfl, rfl, HB⟩ := hrel
        obtain ⟨x0, x1, x2⟩ := box_third HB.out
        have HB0 := hid (below_of_box HB.out)
        by_cases hlt : k < t.items.length
        · obtain ⟨b, off, c0, c1, c2, rfl, hbl, e0, e1, e2, hr⟩ := HK.out k hlt
          obtain ⟨a2, cap2, rfl, rfl, rfl⟩ := rep_shape hr
          have f0 := (HB0.out.cell (p := ⟨b, off + k * 3, none⟩) hbl).trans e0
          have f1 := (HB0.out.cell (p := ⟨b, off + k * 3 + 1, none⟩) hbl).trans e1
          have f2 := (HB0.out.cell (p := ⟨b, off + k * 3 + 2, none⟩) hbl).trans e2
          have HR := hid hr
          have HE := hid (encTo_succ t k hlt)
          have hkw : Itm.wt t.items[k] ≤ 1000000000 := by have := Itm.kid_wt t k hlt; have := HWT.out; omega
          have hsum : (encTo t k).length + (Itm.enc t.items[k]).length ≤ 1000000000 := by
            have h1 := encTo_le t (k + 1) HL.out
            rw [HE.out, List.length_append] at h1
            have h2 := Itm.enc_le_wt t HWT.out
            have h3 := HWT.out
            omega
          clear e0 e1 e2 hr
          go_wp2_with fail
          refine (IH.out _ t.items[k] _ (rep_in HR.out HB0.out) hkw).mono ?_
          rintro e w1 ⟨rfl, hbel⟩
          have HB1 := hid (HB.out.trans (hbel.mono HB.out.size))
          clear hbel
          go_wp2_with fail
          refine ⟨⟨k + 1, by omega, by go_num, by rw [HE.out, ba_append], HB1.out⟩, by simp [intOf]; omega⟩
        · have HKE := hid (show k = t.items.length by omega)
          have hel : (encTo t k).length ≤ 1000000000 := by
            have h1 := encTo_le t k HL.out
            have h2 := Itm.enc_le_wt t HWT.out
            have h3 := HWT.out
            omega
          go_wp2_with fail
          refine (HW.out _ _ hel).mono ?_
          rintro e w1 ⟨rfl, hbel⟩
          go_wp2_with fail
          go_ret
          refine ⟨?_, HB0.out.trans (hbel.mono HB0.out.size)⟩
          rw [encTo_all t HL.out, ← HKE.out]
          rfl
    · exact bytesR_leaf t w a cap (by simpa using hl) (by rw [Itm.wt_eq] at hwt; omega)
end Go.Proofs.Ytplfjengfhijhaa
