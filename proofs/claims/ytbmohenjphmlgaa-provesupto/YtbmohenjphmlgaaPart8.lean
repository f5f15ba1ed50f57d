/- Part 8 of a proof: what the last text needs. -/
import Derived.Test.YtbmohenjphmlgaaPart4
/- The walks of the document's own Bytes, headed, high: an item's bytes as 'enc' says. -/
namespace Go.Proofs.Ytbmohenjphmlgaa
open Go.RowKit
set_option maxRecDepth 100000

theorem u8_mod (n : Nat) : (((UInt8.ofNat (n % 256)).toNat : Nat) : Int) = (n : Int) % 256 := by simp

/-- A slice of one byte, made into a string. -/
theorem run_one_byte (w : World) (z : Int) (c : UInt8) (h : ((c.toNat : Nat) : Int) = z) : (convert 76 9 (.slice (some ⟨w.heap.size, 0, none⟩) 1 1)).run Try.prog (w.alloc (.cells #[.int .u8 z] 5)) = .ok (.string ⟨#[c]⟩) (w.alloc (.cells #[.int .u8 z] 5)) := by
  subst h
  have := run_bytes_string (brd_of_bown (bown_one w w.heap.size c (Nat.le_refl _)))
  exact this

theorem u8_tmod (n : Nat) : (((UInt8.ofNat (n % 256)).toNat : Nat) : Int) = IntKind.u8.wrap ((n : Int).tmod 256) := by
  have h1 : (n : Int).tmod 256 = (n : Int) % 256 := Int.tmod_eq_emod_of_nonneg (by omega)
  rw [h1, u8_mod]
  simp [IntKind.wrap, IntKind.bits, IntKind.signed]

theorem run_one_later (w w1 : World) (z : Int) (c : UInt8) (h : ((c.toNat : Nat) : Int) = z) (hb : Below (w.alloc (.cells #[.int .u8 z] 5)).drew.heap.size (w.alloc (.cells #[.int .u8 z] 5)).drew w1) :
    (convert 76 9 (.slice (some ⟨w.heap.size, 0, none⟩) 1 1)).run Try.prog w1 = .ok (.string ⟨#[c]⟩) w1 := by
  subst h
  have h1 := brd_of_bown (bown_one w w.heap.size c (Nat.le_refl _))
  exact run_bytes_string (brd_in h1 (below_undrew hb))

set_option maxHeartbeats 800000 in
theorem high_any (n : Nat) : ∀ (w : World), n ≤ 1000000000 → Calls Try.prog 89 #[.int .i64 n] w fun e w' => e = .returned (.string ⟨(Itm.be n).toArray⟩) ∧ Below w.heap.size w w' := by
  induction n using Nat.strongRecOn with
  | _ n ih =>
    intro w hn
    by_cases h : n < 256
    · have HB := hid (Itm.be_small h)
      have h' : (n : Int) < 256 := by omega
      have hcv := fun w => run_one_byte w (n : Int) (UInt8.ofNat n) (by simp; omega)
      go_enter Try.func89, Try.ntmps89
      go_wp2_with fail
      go_ret
      exact ⟨by rw [HB.out]; rfl, (Below.refl _ _).alloc (Nat.le_refl _) _⟩
    · have HB := hid (Itm.be_large h)
      have h' : ¬ (n : Int) < 256 := by omega
      have hcv := fun w => run_one_byte w (IntKind.u8.wrap ((n : Int).tmod 256)) (UInt8.ofNat (n % 256)) (u8_tmod n)
      have hcv2 := fun w w1 hb => run_one_later w w1 (IntKind.u8.wrap ((n : Int).tmod 256)) (UInt8.ofNat (n % 256)) (u8_tmod n) hb
      have HCV2 := hid hcv2
      have hcv4 := fun w => run_one_later w _ (IntKind.u8.wrap ((n : Int).tmod 256)) (UInt8.ofNat (n % 256)) (u8_tmod n) (Below.refl _ _)
      clear hcv2
      have HC : Hid (∀ w, Calls Try.prog 89 #[.int .i64 (IntKind.i64.wrap ((n : Int) / 256))] w fun e w' => e = .returned (.string ⟨(Itm.be (n / 256)).toArray⟩) ∧ Below w.heap.size w w') := fun w => by
        have := ih (n / 256) (by omega) w (by omega)
        rwa [show ((n / 256 : Nat) : Int) = IntKind.i64.wrap ((n : Int) / 256) by rw [show IntKind.i64.wrap ((n : Int) / 256) = (n : Int) / 256 from wrap_small _ (by omega) (by omega)]; omega] at this
      have hbl := Itm.be_len_le (n / 256) 8 (by omega) (by omega)
      generalize Itm.be (n / 256) = bl at *
      clear ih
      go_enter Try.func89, Try.ntmps89
      go_wp2_with fail
      go_region_with (go_at_call 89; refine (HC.out _).mono ?_; rintro e w1 ⟨rfl, hbel⟩; try have hcv3 := HCV2.out _ _ hbel)
      all_goals
        go_wp2_with fail
        go_ret
        refine ⟨?_, ?_⟩
        · rw [HB.out]
          exact congrArg (fun x => Ending.returned (.string x)) (by apply ByteArray.ext; simp)
        · first
            | exact (below_undrew hbel).alloc (below_undrew hbel).size _
            | exact ((Below.refl _ _).alloc (Nat.le_refl _) _).trans ((below_undrew hbel).mono (by simp))

theorem ba_append (a b : List UInt8) : (({ data := a.toArray } : ByteArray) ++ { data := b.toArray }) = ⟨(a ++ b).toArray⟩ := by apply ByteArray.ext; simp

set_option maxHeartbeats 800000 in
theorem headedR_any (l : List UInt8) (base : Nat) (w : World) (hb : base + 63 < 256) (hl : l.length ≤ 1000000000) :
    Calls Try.prog 66 #[.string ⟨l.toArray⟩, .int .i64 base] w fun e w' => e = .returned (.string ⟨(Itm.headed base l).toArray⟩) ∧ Below w.heap.size w w' := by
  by_cases h : l.length ≤ 55
  · have h' : (l.length : Int) ≤ 55 := by omega
    have HB : Hid (Itm.headed base l = UInt8.ofNat (base + l.length) :: l) := by unfold Itm.headed Itm.head; rw [if_pos h]; rfl
    have hcv := fun w => run_one_byte w ((base : Int) + (l.length : Int)) (UInt8.ofNat (base + l.length)) (u8_add base l.length (by omega))
    go_enter Try.func66, Try.ntmps66
    go_wp2_with fail
    go_ret
    refine ⟨?_, (Below.refl _ _).alloc (Nat.le_refl _) _⟩
    rw [HB.out]
    exact congrArg (fun x => Ending.returned (.string x)) (by apply ByteArray.ext; simp)
  · have h' : ¬ (l.length : Int) ≤ 55 := by omega
    have HB : Hid (Itm.headed base l = UInt8.ofNat (base + 55 + (Itm.be l.length).length) :: (Itm.be l.length ++ l)) := by unfold Itm.headed Itm.head; rw [if_neg h]; rfl
    have hbl := Itm.be_len_le l.length 8 (by omega) (by omega)
    have HC := hid (fun w => high_any l.length w hl)
    have hcv := fun w => run_one_byte w ((base : Int) + 55 + ((Itm.be l.length).length : Int)) (UInt8.ofNat (base + 55 + (Itm.be l.length).length)) (u8_add (base + 55) (Itm.be l.length).length (by omega))
    generalize Itm.be l.length = bl at *
    go_enter Try.func66, Try.ntmps66
    go_wp2_with fail
    refine (HC.out _).mono ?_
    rintro e w1 ⟨rfl, hbel⟩
    go_wp2_with fail
    go_ret
    refine ⟨?_, hbel.alloc hbel.size _⟩
    rw [HB.out]
    exact congrArg (fun x => Ending.returned (.string x)) (by apply ByteArray.ext; simp)

namespace Itm
/-- A measure of an item: its bytes, and ten for each item in it. -/
def wt : Itm → Nat
  | ⟨_, b, is⟩ => b.length + 10 + (is.attach.map fun ⟨x, _⟩ => wt x).sum

theorem wt_eq (t : Itm) : wt t = t.bytes.length + 10 + (t.items.map wt).sum := by
  obtain ⟨l, b, is⟩ := t
  simp [wt]

theorem mem_wt {x : Itm} {l : List Itm} (h : x ∈ l) : wt x ≤ (l.map wt).sum := by
  induction l with
  | nil => simp at h
  | cons y l ih =>
    simp only [List.map_cons, List.sum_cons]
    rcases List.mem_cons.1 h with rfl | h
    · omega
    · have := ih h; omega

theorem kid_wt (t : Itm) (k : Nat) (h : k < t.items.length) : wt t.items[k] < wt t := by
  have := mem_wt (List.getElem_mem h)
  rw [wt_eq t]; omega

theorem cnt_le_wt (t : Itm) : cnt t ≤ wt t := by
  refine ind (p := fun t => cnt t ≤ wt t) ?_ t
  intro t ih
  rw [cnt_eq, wt_eq]
  have : ∀ l : List Itm, (∀ x ∈ l, cnt x ≤ wt x) → (l.map cnt).sum ≤ (l.map wt).sum := by
    intro l
    induction l with
    | nil => intro _; simp
    | cons x l ihl =>
      intro hx
      have a1 := hx x (by simp)
      have a2 := ihl (fun y hy => hx y (by simp [hy]))
      simp only [List.map_cons, List.sum_cons]; omega
  have := this t.items ih
  omega

theorem enc_le_wt (t : Itm) : wt t ≤ 1000000000 → (enc t).length ≤ wt t := by
  refine ind (p := fun t => wt t ≤ 1000000000 → (enc t).length ≤ wt t) ?_ t
  intro t ih hw
  rw [wt_eq] at hw ⊢
  rw [enc_eq]
  by_cases hl : t.list
  · rw [if_pos hl]
    have : ∀ l : List Itm, (l.map wt).sum ≤ 1000000000 → (∀ x ∈ l, wt x ≤ 1000000000 → (enc x).length ≤ wt x) → (l.flatMap enc).length ≤ (l.map wt).sum := by
      intro l
      induction l with
      | nil => intro _ _; simp
      | cons x l ihl =>
        intro hs hx
        simp only [List.map_cons, List.sum_cons] at hs
        have a1 := hx x (by simp) (by omega)
        have a2 := ihl (by omega) (fun y hy => hx y (by simp [hy]))
        simp only [List.map_cons, List.sum_cons, List.flatMap_cons, List.length_append]; omega
    have h1 := this t.items (by omega) ih
    unfold headed
    have h2 := head_len 192 (t.items.flatMap enc).length (by omega)
    rw [List.length_append]; omega
  · rw [if_neg hl]
    unfold encB
    split
    · omega
    · unfold headed
      have h2 := head_len 128 t.bytes.length (by omega)
      rw [List.length_append]; omega
end Itm

theorem stands_list (l : List UInt8) (h : l.length = 1) : Itm.stands l = decide ((l.getD 0 0).toNat < 128) := by
  unfold Itm.stands; rw [h]; simp

set_option maxHeartbeats 800000 in
theorem bytesR_leaf (t : Itm) (w : World) (a : Option Addr) (cap : Nat) (hl : t.list = false) (hw : t.bytes.length ≤ 1000000000) :
    Calls Try.prog 44 #[.agg #[.bool t.list, .string ⟨t.bytes.toArray⟩, .slice a t.items.length cap]] w fun e w' => e = .returned (.string ⟨(Itm.enc t).toArray⟩) ∧ Below w.heap.size w w' := by
  have he : Itm.enc t = Itm.encB t.bytes := by rw [Itm.enc_eq, hl]; rfl
  rw [hl, he]
  clear he hl
  unfold Itm.encB
  generalize t.items.length = m
  have HC := hid (fun w => headedR_any t.bytes 128 w (by omega) hw)
  obtain ⟨s, hs⟩ : ∃ s : ByteArray, s = ⟨t.bytes.toArray⟩ := ⟨_, rfl⟩
  have hl : t.bytes = s.data.toList := by rw [hs]
  rw [← hs] at HC ⊢
  rw [hl] at HC ⊢
  clear hl hs hw
  by_cases h1 : s.size = 1
  · have hlt : 0 < s.size := by omega
    have hb : ((s.size : Int) == 1) = true := by simp; omega
    have hst := stands_eq s
    rw [ba_getD s hlt, decide_eq_true h1, Bool.true_and] at hst
    clear h1
    by_cases h2 : s[0].toNat < 128
    · rw [decide_eq_true h2] at hst
      rw [if_pos hst]
      have h2' : (s[0].toNat : Int) < 128 := by omega
      clear hst
      go_enter Try.func44, Try.ntmps44
      go_wp2_with fail
      go_ret
      exact ⟨rfl, (Below.refl _ _).alloc (Nat.le_refl _) _⟩
    · rw [decide_eq_false h2] at hst
      rw [if_neg (by rw [hst]; simp)]
      have h2' : ¬ (s[0].toNat : Int) < 128 := by omega
      clear hst
      go_enter Try.func44, Try.ntmps44
      go_wp2_with fail
      refine (HC.out _).mono ?_
      rintro e w1 ⟨rfl, hbel⟩
      go_wp2_with fail
      go_ret
      exact ⟨rfl, ((Below.refl _ _).alloc (Nat.le_refl _) _).trans (hbel.mono (by simp))⟩
  · have hst : Itm.stands s.data.toList = false := by rw [stands_eq]; simp [h1]
    rw [if_neg (by rw [hst]; simp)]
    have h1' : ((s.size : Int) == 1) = false := by simp; omega
    clear hst
    go_enter Try.func44, Try.ntmps44
    go_wp2_with fail
    refine (HC.out _).mono ?_
    rintro e w1 ⟨rfl, hbel⟩
    go_wp2_with fail
    go_ret
    exact ⟨rfl, ((Below.refl _ _).alloc (Nat.le_refl _) _).trans (hbel.mono (by simp))⟩

/-- The box of a parameter, kept while nothing below it is written. -/
theorem box_third {w wr : World} {x y z : Value} (hb : Below (w.alloc (.cells #[x, y, z] 24)).heap.size (w.alloc (.cells #[x, y, z] 24)) wr) :
    wr.cell? ⟨w.heap.size, 0, none⟩ = some x ∧ wr.cell? ⟨w.heap.size, 1, none⟩ = some y ∧ wr.cell? ⟨w.heap.size, 2, none⟩ = some z := by
  have h := old_block hb
  exact ⟨by rw [cell_of_row _ _ 0 _ _ _ h]; rfl, by rw [cell_of_row _ _ 1 _ _ _ h]; rfl, by rw [cell_of_row _ _ 2 _ _ _ h]; rfl⟩

theorem below_of_box {w wr : World} {O : Obj} (hb : Below (w.alloc O).heap.size (w.alloc O) wr) : Below w.heap.size w wr :=
  ((Below.refl _ _).alloc (Nat.le_refl _) _).trans (hb.mono (by simp))

set_option maxHeartbeats 800000 in
theorem bytesR_any (n : Nat) : ∀ (v : Value) (t : Itm) (w : World), Rep w.heap.size w n v t → Itm.wt t ≤ 1000000000 →
    Calls Try.prog 44 #[v] w fun e w' => e = .returned (.string ⟨(Itm.enc t).toArray⟩) ∧ Below w.heap.size w w' := by
  induction n with
  | zero => intro v t w h; exact h.elim
  | succ n ih =>
    intro v t w hrep hwt
    obtain ⟨a, cap, rfl, hm, hkids⟩ := hrep
    by_cases hl : t.list
    · have hl' : t.list = true := hl
      have HK := hid hkids
      have IH := hid ih
      have HWT := hid hwt
      have HL := hid hl'
      have HW := hid (fun (l : List UInt8) (w : World) h => headedR_any l 192 w (by omega) h)
      clear hkids ih hwt hl
      unfold maxLen at hm
      rw [hl']
      clear hl'
      go_enter Try.func44, Try.ntmps44
      go_wp2_with fail
      go_loopw [3, 4] (fun s i wr => ∃ k : Nat, k ≤ t.items.length ∧ i = .int .i64 k ∧ s = .string ⟨(encTo t k).toArray⟩ ∧ Hid (Below (w.alloc (.cells #[.bool true, .string ⟨t.bytes.toArray⟩, .slice a t.items.length cap] 24)).heap.size (w.alloc (.cells #[.bool true, .string ⟨t.bytes.toArray⟩, .slice a t.items.length cap] 24)) wr)) (fun _ i _ => t.items.length - (intOf i).toNat)
      case atStart => exact ⟨0, Nat.zero_le _, rfl, by rw [encTo_zero], Below.refl _ _⟩
      case round =>
        obtain ⟨k, hk, rfl, rfl, HB⟩ := hrel
        obtain ⟨x0, x1, x2⟩ := box_third HB.out
        have HB0 := hid (below_of_box HB.out)
        by_cases hlt : k < t.items.length
        · obtain ⟨b, off, c0, c1, c2, rfl, hbl, e0, e1, e2, hr⟩ := HK.out k hlt
          obtain ⟨a2, cap2, rfl, rfl, rfl⟩ := rep_shape hr
          have f0 := (HB0.out.cell (p := ⟨b, off + k * 3, none⟩) hbl).trans e0
          have f1 := (HB0.out.cell (p := ⟨b, off + k * 3 + 1, none⟩) hbl).trans e1
          have f2 := (HB0.out.cell (p := ⟨b, off + k * 3 + 2, none⟩) hbl).trans e2
          have HR := hid hr
          have HE := hid (encTo_succ t k hlt)
          have hkw : Itm.wt t.items[k] ≤ 1000000000 := by have := Itm.kid_wt t k hlt; have := HWT.out; omega
          have hsum : (encTo t k).length + (Itm.enc t.items[k]).length ≤ 1000000000 := by
            have h1 := encTo_le t (k + 1) HL.out
            rw [HE.out, List.length_append] at h1
            have h2 := Itm.enc_le_wt t HWT.out
            have h3 := HWT.out
            omega
          clear e0 e1 e2 hr
          go_wp2_with fail
          refine (IH.out _ t.items[k] _ (rep_in HR.out HB0.out) hkw).mono ?_
          rintro e w1 ⟨rfl, hbel⟩
          have HB1 := hid (HB.out.trans (hbel.mono HB.out.size))
          clear hbel
          go_wp2_with fail
          refine ⟨⟨k + 1, by omega, by go_num, by rw [HE.out, ba_append], HB1.out⟩, by simp [intOf]; omega⟩
        · have HKE := hid (show k = t.items.length by omega)
          have hel : (encTo t k).length ≤ 1000000000 := by
            have h1 := encTo_le t k HL.out
            have h2 := Itm.enc_le_wt t HWT.out
            have h3 := HWT.out
            omega
          go_wp2_with fail
          refine (HW.out _ _ hel).mono ?_
          rintro e w1 ⟨rfl, hbel⟩
          go_wp2_with fail
          go_ret
          refine ⟨?_, HB0.out.trans (hbel.mono HB0.out.size)⟩
          rw [encTo_all t HL.out, ← HKE.out]
          rfl
    · exact bytesR_leaf t w a cap (by simpa using hl) (by rw [Itm.wt_eq] at hwt; omega)
end Go.Proofs.Ytbmohenjphmlgaa

/- The walks of the document's own pure, depth and Encode: they answer as the program's Encode does. -/
namespace Go.Proofs.Ytbmohenjphmlgaa
open Go.RowKit
set_option maxRecDepth 100000

/-- Are the first k items pure? -/
def pureTo (t : Itm) (k : Nat) : Bool := (t.items.take k).all Itm.pure

theorem pureTo_succ (t : Itm) (k : Nat) (h : k < t.items.length) : pureTo t (k + 1) = (pureTo t k && Itm.pure t.items[k]) := by
  unfold pureTo
  rw [List.take_succ_eq_append_getElem h, List.all_append]
  simp

theorem pureTo_all (t : Itm) (h : Itm.stray t = false) : Itm.pure t = pureTo t t.items.length := by
  rw [Itm.pure_stray, h]; simp [pureTo]

theorem pure_not (t : Itm) (k : Nat) (h : k < t.items.length) (hp : Itm.pure t.items[k] = false) : Itm.pure t = false := by
  rw [Itm.pure_stray]
  have : t.items.all Itm.pure = false := by
    rw [List.all_eq_false]
    exact ⟨_, List.getElem_mem h, by rw [hp]; simp⟩
  rw [this]; simp

set_option maxHeartbeats 800000 in
theorem pureR_stray (t : Itm) (w : World) (a : Option Addr) (cap : Nat) (hs : Itm.stray t = true) :
    Calls Try.prog 42 #[.agg #[.bool t.list, .string ⟨t.bytes.toArray⟩, .slice a t.items.length cap]] w fun e w' => e = .returned (.bool false) ∧ Below w.heap.size w w' := by
  unfold Itm.stray at hs
  by_cases hl : t.list
  · rw [if_pos hl] at hs
    have hb : t.bytes.isEmpty = false := by simpa using hs
    have hl' : t.list = true := hl
    rw [hl']
    clear hs hl hl'
    go_enter Try.func42, Try.ntmps42
    go_wp2_with fail
    go_ret
    exact ⟨rfl, (Below.refl _ _).alloc (Nat.le_refl _) _⟩
  · rw [if_neg hl] at hs
    have hb : (0 : Int) < (t.items.length : Int) := by simp at hs; omega
    have hl' : t.list = false := by simpa using hl
    rw [hl']
    clear hs hl hl'
    go_enter Try.func42, Try.ntmps42
    go_wp2_with fail
    go_ret
    exact ⟨rfl, (Below.refl _ _).alloc (Nat.le_refl _) _⟩

set_option maxHeartbeats 800000 in
theorem pureR_any (n : Nat) : ∀ (v : Value) (t : Itm) (w : World), Rep w.heap.size w n v t →
    Calls Try.prog 42 #[v] w fun e w' => e = .returned (.bool (Itm.pure t)) ∧ Below w.heap.size w w' := by
  induction n with
  | zero => intro v t w h; exact h.elim
  | succ n ih =>
    intro v t w hrep
    obtain ⟨a, cap, rfl, hm, hkids⟩ := hrep
    cases hs : Itm.stray t with
    | true =>
      have hp : Itm.pure t = false := by rw [Itm.pure_stray, hs]; rfl
      rw [hp]
      exact pureR_stray t w a cap hs
    | false =>
      have HS := hid hs
      have HK := hid hkids
      have IH := hid ih
      have hst : (t.list = true ∧ t.bytes.isEmpty = true) ∨ (t.list = false ∧ ¬ (0 : Int) < (t.items.length : Int)) := by
        unfold Itm.stray at hs
        by_cases hl : t.list
        · rw [if_pos hl] at hs; exact .inl ⟨hl, by simpa using hs⟩
        · rw [if_neg hl] at hs; exact .inr ⟨by simpa using hl, by simp at hs; rw [hs]; simp⟩
      clear hkids ih hs
      unfold maxLen at hm
      have key : ∀ lb : Bool, t.list = lb → Calls Try.prog 42 #[.agg #[.bool lb, .string ⟨t.bytes.toArray⟩, .slice a t.items.length cap]] w fun e w' => e = .returned (.bool (Itm.pure t)) ∧ Below w.heap.size w w' := by
        intro lb hlb
        rcases hst with ⟨h1, h2⟩ | ⟨h1, h2⟩
        · rw [h1] at hlb
          subst hlb
          clear h1
          go_enter Try.func42, Try.ntmps42
          go_wp2_with fail
          go_loopw [3] (fun i wr => ∃ k : Nat, k ≤ t.items.length ∧ i = .int .i64 k ∧ Hid (pureTo t k = true ∧ wr.cell? ⟨w.heap.size, 2, none⟩ = some (.slice a t.items.length cap) ∧ w.heap.size < wr.heap.size ∧ Below w.heap.size w wr)) (fun i _ => t.items.length - (intOf i).toNat)
          case atStart => exact ⟨0, Nat.zero_le _, rfl, by simp [pureTo], by simp, by simp, (Below.refl _ _).alloc (Nat.le_refl _) _⟩
          case round =>
            obtain ⟨k, hk, rfl, HH⟩ := hrel
            have x2 := HH.out.2.1
            by_cases hlt : k < t.items.length
            · obtain ⟨b, off, c0, c1, c2, rfl, hbl, e0, e1, e2, hr⟩ := HK.out k hlt
              obtain ⟨a2, cap2, rfl, rfl, rfl⟩ := rep_shape hr
              have HB0 := hid HH.out.2.2.2
              have f0 := (HB0.out.cell (p := ⟨b, off + k * 3, none⟩) hbl).trans e0
              have f1 := (HB0.out.cell (p := ⟨b, off + k * 3 + 1, none⟩) hbl).trans e1
              have f2 := (HB0.out.cell (p := ⟨b, off + k * 3 + 2, none⟩) hbl).trans e2
              have HR := hid hr
              clear e0 e1 e2 hr
              go_wp2_with fail
              refine (IH.out _ t.items[k] _ (rep_in HR.out HB0.out)).mono ?_
              rintro e w1 ⟨rfl, hbel⟩
              have HB1 := hid hbel
              clear hbel
              cases hp : Itm.pure t.items[k] with
              | true =>
                have HP := hid hp
                clear hp
                go_wp2_with fail
                refine ⟨⟨k + 1, by omega, by go_num, by rw [pureTo_succ t k hlt, HH.out.1, HP.out]; rfl, (HB1.out.cell (p := ⟨w.heap.size, 2, none⟩) HH.out.2.2.1).trans HH.out.2.1, Nat.lt_of_lt_of_le HH.out.2.2.1 HB1.out.size, HB0.out.trans (HB1.out.mono HB0.out.size)⟩, by simp [intOf]; omega⟩
              | false =>
                have HP := hid hp
                clear hp
                go_wp2_with fail
                go_ret
                exact ⟨by rw [pure_not t k hlt HP.out]; rfl, HB0.out.trans (HB1.out.mono HB0.out.size)⟩
            · have HKE := hid (show k = t.items.length by omega)
              go_wp2_with fail
              go_ret
              exact ⟨by rw [pureTo_all t HS.out, ← HKE.out, HH.out.1]; rfl, HH.out.2.2.2⟩
        · rw [h1] at hlb
          subst hlb
          have h0 : t.items.length = 0 := by omega
          have hpt : Itm.pure t = true := by rw [pureTo_all t HS.out, h0]; simp [pureTo]
          rw [hpt, h0]
          clear h1 h2 h0 hpt
          go_enter Try.func42, Try.ntmps42
          go_wp2_with fail
          refine wp_loop_rounds 1 ?_
          rw [rounds_succ]
          go_wp2_with fail
          go_ret
          exact ⟨rfl, (Below.refl _ _).alloc (Nat.le_refl _) _⟩
      exact key t.list rfl

theorem pure_kid {t : Itm} (h : Itm.pure t = true) (k : Nat) (hk : k < t.items.length) : Itm.pure t.items[k] = true := by
  rw [Itm.pure_stray] at h
  simp only [Bool.and_eq_true, List.all_eq_true] at h
  exact h.2 _ (List.getElem_mem hk)

theorem pure_flat {t : Itm} (h : Itm.pure t = true) (hl : t.list = false) : t.items.length = 0 := by
  rw [Itm.pure_eq, hl] at h
  simp at h
  simp [h.1]

theorem topTo_le' (t : Itm) (k : Nat) (h : t.list = true) (hd : Itm.deep t ≤ 1000000000) : topTo t k ≤ 1000000000 := by
  have := topTo_le t k h; omega

set_option maxHeartbeats 800000 in
theorem depthR_any (n : Nat) : ∀ (v : Value) (t : Itm) (w : World), Rep w.heap.size w n v t → Itm.pure t = true → Itm.deep t ≤ 1000000000 →
    Calls Try.prog 43 #[v] w fun e w' => e = .returned (.int .i64 (Itm.deep t)) ∧ Below w.heap.size w w' := by
  induction n with
  | zero => intro v t w h; exact h.elim
  | succ n ih =>
    intro v t w hrep hp hd
    obtain ⟨a, cap, rfl, hm, hkids⟩ := hrep
    have HP := hid hp
    have HD := hid hd
    have HK := hid hkids
    have IH := hid ih
    clear hkids ih hp hd
    unfold maxLen at hm
    by_cases hl : t.list
    · have HL := hid (show t.list = true from hl)
      have hl' : t.list = true := hl
      rw [hl']
      clear hl hl'
      go_enter Try.func43, Try.ntmps43
      go_wp2_with fail
      go_loopw [3, 4] (fun d i wr => ∃ k : Nat, k ≤ t.items.length ∧ i = .int .i64 k ∧ d = .int .i64 (topTo t k) ∧ Hid (wr.cell? ⟨w.heap.size, 0, none⟩ = some (.bool true) ∧ wr.cell? ⟨w.heap.size, 2, none⟩ = some (.slice a t.items.length cap) ∧ w.heap.size < wr.heap.size ∧ Below w.heap.size w wr)) (fun _ i _ => t.items.length - (intOf i).toNat)
      case atStart => exact ⟨0, Nat.zero_le _, rfl, by rw [topTo_zero]; rfl, by simp, by simp, by simp, (Below.refl _ _).alloc (Nat.le_refl _) _⟩
      case round =>
        obtain ⟨k, hk, rfl, rfl, HH⟩ := hrel
        have x0 := HH.out.1
        have x2 := HH.out.2.1
        have htb := topTo_le t k HL.out
        have htb2 : topTo t k + 1 ≤ 1000000000 := Nat.le_trans htb HD.out
        clear htb
        by_cases hlt : k < t.items.length
        · obtain ⟨b, off, c0, c1, c2, rfl, hbl, e0, e1, e2, hr⟩ := HK.out k hlt
          obtain ⟨a2, cap2, rfl, rfl, rfl⟩ := rep_shape hr
          have HB0 := hid HH.out.2.2.2
          have f0 := (HB0.out.cell (p := ⟨b, off + k * 3, none⟩) hbl).trans e0
          have f1 := (HB0.out.cell (p := ⟨b, off + k * 3 + 1, none⟩) hbl).trans e1
          have f2 := (HB0.out.cell (p := ⟨b, off + k * 3 + 2, none⟩) hbl).trans e2
          have HR := hid hr
          have HT := hid (topTo_succ t k hlt)
          have hdk : Itm.deep t.items[k] ≤ 1000000000 := by have := deep_kid t k hlt HL.out; have := HD.out; omega
          clear e0 e1 e2 hr
          go_wp2_with fail
          refine (IH.out _ t.items[k] _ (rep_in HR.out HB0.out) (pure_kid HP.out k hlt) hdk).mono ?_
          rintro e w1 ⟨rfl, hbel⟩
          have HB1 := hid hbel
          have HR2 : Hid (w1.cell? ⟨w.heap.size, 0, none⟩ = some (.bool true) ∧ w1.cell? ⟨w.heap.size, 2, none⟩ = some (.slice (some ⟨b, off, none⟩) t.items.length cap) ∧ w.heap.size < w1.heap.size ∧ Below w.heap.size w w1) :=
            ⟨(hbel.cell (p := ⟨w.heap.size, 0, none⟩) HH.out.2.2.1).trans HH.out.1, (hbel.cell (p := ⟨w.heap.size, 2, none⟩) HH.out.2.2.1).trans HH.out.2.1, Nat.lt_of_lt_of_le HH.out.2.2.1 hbel.size, HB0.out.trans (hbel.mono HB0.out.size)⟩
          clear hbel
          by_cases hgt : topTo t k < Itm.deep t.items[k]
          · have hgt' : (topTo t k : Int) < (Itm.deep t.items[k] : Int) := by omega
            go_wp2_with fail
            refine ⟨⟨k + 1, by omega, by go_num, congrArg (Value.int .i64) (by rw [HT.out]; omega), HR2.out⟩, by simp [intOf]; omega⟩
          · have hgt' : ¬ (topTo t k : Int) < (Itm.deep t.items[k] : Int) := by omega
            go_wp2_with fail
            refine ⟨⟨k + 1, by omega, by go_num, congrArg (Value.int .i64) (by rw [HT.out]; omega), HR2.out⟩, by simp [intOf]; omega⟩
        · have HKE := hid (show k = t.items.length by omega)
          go_wp2_with fail
          go_ret
          refine ⟨?_, HH.out.2.2.2⟩
          rw [topTo_all t HL.out, ← HKE.out]
          simp
    · have hl' : t.list = false := by simpa using hl
      have h0 := pure_flat HP.out hl'
      have hd0 : Itm.deep t = 0 := by rw [Itm.deep_eq, hl']; rfl
      rw [hl', hd0, h0]
      clear hl hl' h0 hd0
      go_enter Try.func43, Try.ntmps43
      go_wp2_with fail
      refine wp_loop_rounds 1 ?_
      rw [rounds_succ]
      go_wp2_with fail
      go_ret
      exact ⟨rfl, (Below.refl _ _).alloc (Nat.le_refl _) _⟩

set_option maxHeartbeats 400000 in
theorem num_any (n : Int) (w : World) : Calls Try.prog 16 #[.int .i64 n] w fun e w' => e = .returned (.int .i64 n) ∧ w' = w := by
  go_enter Try.func16, Try.ntmps16
  go_wp2_with fail
  go_ret
  exact ⟨rfl, rfl⟩

theorem deep_le_wt (t : Itm) : Itm.deep t ≤ Itm.wt t := by
  refine Itm.ind (p := fun t => Itm.deep t ≤ Itm.wt t) ?_ t
  intro t ih
  rw [Itm.deep_eq, Itm.wt_eq]
  split
  · have : Itm.top (t.items.map Itm.deep) ≤ (t.items.map Itm.wt).sum := Itm.top_le (by
      intro x hx
      simp only [List.mem_map] at hx
      obtain ⟨y, hy, rfl⟩ := hx
      exact Nat.le_trans (ih y hy) (Itm.mem_wt hy))
    omega
  · omega

set_option maxHeartbeats 800000 in
theorem encodeR_any (n : Nat) (t : Itm) (w : World) (v : Value) (hc : Itm.wt t ≤ 1000000000) (hrep : Rep w.heap.size w n v t) :
    Calls Try.prog 14 #[v] w fun e w' => e = .returned (.tuple #[.string ⟨(Itm.encA t).1.toArray⟩, .int .i64 ((Itm.encA t).2 : Nat)]) ∧ Below w.heap.size w w' := by
  obtain ⟨a, cap, rfl⟩ : ∃ a cap, v = .agg #[.bool t.list, .string ⟨t.bytes.toArray⟩, .slice a t.items.length cap] := by
    cases n with
    | zero => exact hrep.elim
    | succ n => obtain ⟨a, cap, hv, _⟩ := hrep; exact ⟨a, cap, hv⟩
  have HR := hid hrep
  have HPU := hid (fun w h => pureR_any n (.agg #[.bool t.list, .string ⟨t.bytes.toArray⟩, .slice a t.items.length cap]) t w h)
  have HDE := hid (fun w h hp => depthR_any n (.agg #[.bool t.list, .string ⟨t.bytes.toArray⟩, .slice a t.items.length cap]) t w h hp (by have := deep_le_wt t; omega))
  have HBY := hid (fun w h => bytesR_any n (.agg #[.bool t.list, .string ⟨t.bytes.toArray⟩, .slice a t.items.length cap]) t w h hc)
  have hel := Itm.enc_le_wt t hc
  have hdl := deep_le_wt t
  clear hrep
  cases hp : Itm.pure t with
  | false =>
    rw [Itm.encA_impure hp]
    rw [hp] at HPU
    clear hp
    go_enter Try.func14, Try.ntmps14
    go_wp2_with fail
    refine (HPU.out _ (rep_in HR.out ((Below.refl _ _).alloc (Nat.le_refl _) _))).mono ?_
    rintro e w1 ⟨rfl, hbel⟩
    go_wp2_with fail
    go_ret2
    exact ⟨rfl, below_of_box hbel⟩
  | true =>
    have HP := hid hp
    rw [hp] at HPU
    clear hp
    by_cases h8 : 8 < Itm.deep t
    · rw [Itm.encA_big HP.out (by omega)]
      have h8' : (8 : Int) < (Itm.deep t : Int) := by omega
      go_enter Try.func14, Try.ntmps14
      go_wp2_with fail
      refine (HPU.out _ (rep_in HR.out ((Below.refl _ _).alloc (Nat.le_refl _) _))).mono ?_
      rintro e w1 ⟨rfl, hbel⟩
      obtain ⟨x0, x1, x2⟩ := box_third hbel
      have HB1 := hid (below_of_box hbel)
      clear hbel
      go_wp2_with fail
      refine (HDE.out _ (rep_in HR.out HB1.out) HP.out).mono ?_
      rintro e w2 ⟨rfl, hbel2⟩
      have HB2 := hid (HB1.out.trans (hbel2.mono HB1.out.size))
      clear hbel2
      go_wp2_with fail
      go_ret2
      exact ⟨rfl, HB2.out⟩
    · have h8' : ¬ (8 : Int) < (Itm.deep t : Int) := by omega
      have run : ∀ E : List UInt8 × Nat, (1000 < (Itm.enc t).length → E = ([], 2)) → (¬ 1000 < (Itm.enc t).length → E = (Itm.enc t, 0)) →
          Calls Try.prog 14 #[.agg #[.bool t.list, .string ⟨t.bytes.toArray⟩, .slice a t.items.length cap]] w fun e w' => e = .returned (.tuple #[.string ⟨E.1.toArray⟩, .int .i64 (E.2 : Nat)]) ∧ Below w.heap.size w w' := by
        intro E hE1 hE2
        have HE1 := hid hE1
        have HE2 := hid hE2
        clear hE1 hE2
        by_cases hb : 1000 < (Itm.enc t).length
        · have hb' : (1000 : Int) < ((Itm.enc t).length : Int) := by omega
          obtain rfl := HE1.out hb
          go_enter Try.func14, Try.ntmps14
          go_wp2_with fail
          refine (HPU.out _ (rep_in HR.out ((Below.refl _ _).alloc (Nat.le_refl _) _))).mono ?_
          rintro e w1 ⟨rfl, hbel⟩
          obtain ⟨x0, x1, x2⟩ := box_third hbel
          have HB1 := hid (below_of_box hbel)
          have HBX := hid hbel
          clear hbel
          go_wp2_with fail
          refine (HDE.out _ (rep_in HR.out HB1.out) HP.out).mono ?_
          rintro e w2 ⟨rfl, hbel2⟩
          have HB2 := hid (HB1.out.trans (hbel2.mono HB1.out.size))
          obtain ⟨y0, y1, y2⟩ := box_third (HBX.out.trans (hbel2.mono HBX.out.size))
          clear hbel2
          go_wp2_with fail
          refine (HBY.out _ (rep_in HR.out HB2.out)).mono ?_
          rintro e w3 ⟨rfl, hbel3⟩
          have HB3 := hid (HB2.out.trans (hbel3.mono HB2.out.size))
          clear hbel3
          go_wp2_with fail
          go_ret2
          exact ⟨rfl, HB3.out⟩
        · have hb' : ¬ (1000 : Int) < ((Itm.enc t).length : Int) := by omega
          obtain rfl := HE2.out hb
          go_enter Try.func14, Try.ntmps14
          go_wp2_with fail
          refine (HPU.out _ (rep_in HR.out ((Below.refl _ _).alloc (Nat.le_refl _) _))).mono ?_
          rintro e w1 ⟨rfl, hbel⟩
          obtain ⟨x0, x1, x2⟩ := box_third hbel
          have HB1 := hid (below_of_box hbel)
          have HBX := hid hbel
          clear hbel
          go_wp2_with fail
          refine (HDE.out _ (rep_in HR.out HB1.out) HP.out).mono ?_
          rintro e w2 ⟨rfl, hbel2⟩
          have HB2 := hid (HB1.out.trans (hbel2.mono HB1.out.size))
          obtain ⟨y0, y1, y2⟩ := box_third (HBX.out.trans (hbel2.mono HBX.out.size))
          clear hbel2
          go_wp2_with fail
          refine (HBY.out _ (rep_in HR.out HB2.out)).mono ?_
          rintro e w3 ⟨rfl, hbel3⟩
          have HB3 := hid (HB2.out.trans (hbel3.mono HB2.out.size))
          clear hbel3
          go_wp2_with fail
          go_ret2
          exact ⟨rfl, HB3.out⟩
      exact run _ (fun hb => Itm.encA_big HP.out (by omega)) (fun hb => Itm.encA_ok HP.out ⟨by omega, by omega⟩)
end Go.Proofs.Ytbmohenjphmlgaa
