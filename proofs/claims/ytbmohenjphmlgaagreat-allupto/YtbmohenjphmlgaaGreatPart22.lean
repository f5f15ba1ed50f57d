/- Part 22 of a proof: what the last text needs. -/
import Derived.Test.YtbmohenjphmlgaaGreatPart5
import Derived.Test.YtbmohenjphmlgaaGreatPart21
import Derived.Test.YtbmohenjphmlgaaGreatPart19
/- The walks of the document's own Bytes, headed, high: an item's bytes as 'enc' says. -/
namespace Go.Proofs.YtbmohenjphmlgaaGreat
open Go.RowKit
set_option maxRecDepth 100000

theorem u8_mod (n : Nat) : (((UInt8.ofNat (n % 256)).toNat : Nat) : Int) = (n : Int) % 256 := by simp

/-- A slice of one byte, made into a string. -/
theorem run_one_byte (w : World) (z : Int) (c : UInt8) (h : ((c.toNat : Nat) : Int) = z) : (convert 114 9 (.slice (some ⟨w.heap.size, 0, none⟩) 1 1)).run Tryz.prog (w.alloc (.cells #[.int .u8 z] 5)) = .ok (.string ⟨#[c]⟩) (w.alloc (.cells #[.int .u8 z] 5)) := by
  subst h
  have := run_bytes_string (brd_of_bown (bown_one w w.heap.size c (Nat.le_refl _)))
  exact this

theorem u8_tmod (n : Nat) : (((UInt8.ofNat (n % 256)).toNat : Nat) : Int) = IntKind.u8.wrap ((n : Int).tmod 256) := by
  have h1 : (n : Int).tmod 256 = (n : Int) % 256 := Int.tmod_eq_emod_of_nonneg (by omega)
  rw [h1, u8_mod]
  simp [IntKind.wrap, IntKind.bits, IntKind.signed]

theorem run_one_later (w w1 : World) (z : Int) (c : UInt8) (h : ((c.toNat : Nat) : Int) = z) (hb : Below (w.alloc (.cells #[.int .u8 z] 5)).drew.heap.size (w.alloc (.cells #[.int .u8 z] 5)).drew w1) :
    (convert 114 9 (.slice (some ⟨w.heap.size, 0, none⟩) 1 1)).run Tryz.prog w1 = .ok (.string ⟨#[c]⟩) w1 := by
  subst h
  have h1 := brd_of_bown (bown_one w w.heap.size c (Nat.le_refl _))
  exact run_bytes_string (brd_in h1 (below_undrew hb))

set_option maxHeartbeats 800000 in
theorem high_any (n : Nat) : ∀ (w : World), n ≤ 1000000000 → Calls Tryz.prog 164 #[.int .i64 n] w fun e w' => e = .returned (.string ⟨(Itm.be n).toArray⟩) ∧ Below w.heap.size w w' := by
  induction n using Nat.strongRecOn with
  | _ n ih =>
    intro w hn
    by_cases h : n < 256
    · have HB := hid (Itm.be_small h)
      have h' : (n : Int) < 256 := by omega
      have hcv := fun w => run_one_byte w (n : Int) (UInt8.ofNat n) (by simp; omega)
      go_enter Tryz.func164, Tryz.ntmps164
      go_wp2_with fail
      go_ret
      exact ⟨by rw [HB.out]; rfl, (Below.refl _ _).alloc (Nat.le_refl _) _⟩
    · have HB := hid (Itm.be_large h)
      have h' : ¬ (n : Int) < 256 := by omega
      have hcv := fun w => run_one_byte w (IntKind.u8.wrap ((n : Int).tmod 256)) (UInt8.ofNat (n % 256)) (u8_tmod n)
      have hcv2 := fun w w1 hb => run_one_later w w1 (IntKind.u8.wrap ((n : Int).tmod 256)) (UInt8.ofNat (n % 256)) (u8_tmod n) hb
      have HCV2 := hid hcv2
      have hcv4 := fun w => run_one_later w _ (IntKind.u8.wrap ((n : Int).tmod 256)) (UInt8.ofNat (n % 256)) (u8_tmod n) (Below.refl _ _)
      clear hcv2
      have HC : Hid (∀ w, Calls Tryz.prog 164 #[.int .i64 (IntKind.i64.wrap ((n : Int) / 256))] w fun e w' => e = .returned (.string ⟨(Itm.be (n / 256)).toArray⟩) ∧ Below w.heap.size w w') := fun w => by
        have := ih (n / 256) (by omega) w (by omega)
        rwa [show ((n / 256 : Nat) : Int) = IntKind.i64.wrap ((n : Int) / 256) by rw [show IntKind.i64.wrap ((n : Int) / 256) = (n : Int) / 256 from wrap_small _ (by omega) (by omega)]; omega] at this
      have hbl := Itm.be_len_le (n / 256) 8 (by omega) (by omega)
      generalize Itm.be (n / 256) = bl at *
      clear ih
      go_enter Tryz.func164, Tryz.ntmps164
      go_wp2_with fail
      go_region_with (go_at_call 164; refine (HC.out _).mono ?_; rintro e w1 ⟨rfl, hbel⟩; try have hcv3 := HCV2.out _ _ hbel)
      all_goals
        go_wp2_with fail
        go_ret
        refine ⟨?_, ?_⟩
        · rw [HB.out]
          exact congrArg (fun x => Ending.returned (.string x)) (by apply ByteArray.ext; simp)
        · first
            | exact (below_undrew hbel).alloc (below_undrew hbel).size _
            | exact ((Below.refl _ _).alloc (Nat.le_refl _) _).trans ((below_undrew hbel).mono (by simp))

theorem ba_append (a b : List UInt8) : (({ data := a.toArray } : ByteArray) ++ { data := b.toArray }) = ⟨(a ++ b).toArray⟩ := by apply ByteArray.ext; simp

set_option maxHeartbeats 800000 in
theorem headedR_any (l : List UInt8) (base : Nat) (w : World) (hb : base + 63 < 256) (hl : l.length ≤ 1000000000) :
    Calls Tryz.prog 153 #[.string ⟨l.toArray⟩, .int .i64 base] w fun e w' => e = .returned (.string ⟨(Itm.headed base l).toArray⟩) ∧ Below w.heap.size w w' := by
  by_cases h : l.length ≤ 55
  · have h' : (l.length : Int) ≤ 55 := by omega
    have HB : Hid (Itm.headed base l = UInt8.ofNat (base + l.length) :: l) := by unfold Itm.headed Itm.head; rw [if_pos h]; rfl
    have hcv := fun w => run_one_byte w ((base : Int) + (l.length : Int)) (UInt8.ofNat (base + l.length)) (u8_add base l.length (by omega))
    go_enter Tryz.func153, Tryz.ntmps153
    go_wp2_with fail
    go_ret
    refine ⟨?_, (Below.refl _ _).alloc (Nat.le_refl _) _⟩
    rw [HB.out]
    exact congrArg (fun x => Ending.returned (.string x)) (by apply ByteArray.ext; simp)
  · have h' : ¬ (l.length : Int) ≤ 55 := by omega
    have HB : Hid (Itm.headed base l = UInt8.ofNat (base + 55 + (Itm.be l.length).length) :: (Itm.be l.length ++ l)) := by unfold Itm.headed Itm.head; rw [if_neg h]; rfl
    have hbl := Itm.be_len_le l.length 8 (by omega) (by omega)
    have HC := hid (fun w => high_any l.length w hl)
    have hcv := fun w => run_one_byte w ((base : Int) + 55 + ((Itm.be l.length).length : Int)) (UInt8.ofNat (base + 55 + (Itm.be l.length).length)) (u8_add (base + 55) (Itm.be l.length).length (by omega))
    generalize Itm.be l.length = bl at *
    go_enter Tryz.func153, Tryz.ntmps153
    go_wp2_with fail
    refine (HC.out _).mono ?_
    rintro e w1 ⟨rfl, hbel⟩
    go_wp2_with fail
    go_ret
    refine ⟨?_, hbel.alloc hbel.size _⟩
    rw [HB.out]
    exact congrArg (fun x => Ending.returned (.string x)) (by apply ByteArray.ext; simp)

namespace Itm
/-- A measure of an item: its bytes, and ten for each item in it. -/
def wt : Itm → Nat
  | ⟨_, b, is⟩ => b.length + 10 + (is.attach.map fun ⟨x, _⟩ => wt x).sum

theorem wt_eq (t : Itm) : wt t = t.bytes.length + 10 + (t.items.map wt).sum := by
  obtain ⟨l, b, is⟩ := t
  simp [wt]

theorem mem_wt {x : Itm} {l : List Itm} (h : x ∈ l) : wt x ≤ (l.map wt).sum := by
  induction l with
  | nil => simp at h
  | cons y l ih =>
    simp only [List.map_cons, List.sum_cons]
    rcases List.mem_cons.1 h with rfl | h
    · omega
    · have := ih h; omega

theorem kid_wt (t : Itm) (k : Nat) (h : k < t.items.length) : wt t.items[k] < wt t := by
  have := mem_wt (List.getElem_mem h)
  rw [wt_eq t]; omega

theorem enc_le_wt (t : Itm) : wt t ≤ 1000000000 → (enc t).length ≤ wt t := by
  refine ind (p := fun t => wt t ≤ 1000000000 → (enc t).length ≤ wt t) ?_ t
  intro t ih hw
  rw [wt_eq] at hw ⊢
  rw [enc_eq]
  by_cases hl : t.list
  · rw [if_pos hl]
    have : ∀ l : List Itm, (l.map wt).sum ≤ 1000000000 → (∀ x ∈ l, wt x ≤ 1000000000 → (enc x).length ≤ wt x) → (l.flatMap enc).length ≤ (l.map wt).sum := by
      intro l
      induction l with
      | nil => intro _ _; simp
      | cons x l ihl =>
        intro hs hx
        simp only [List.map_cons, List.sum_cons] at hs
        have a1 := hx x (by simp) (by omega)
        have a2 := ihl (by omega) (fun y hy => hx y (by simp [hy]))
        simp only [List.map_cons, List.sum_cons, List.flatMap_cons, List.length_append]; omega
    have h1 := this t.items (by omega) ih
    unfold headed
    have h2 := head_len 192 (t.items.flatMap enc).length (by omega)
    rw [List.length_append]; omega
  · rw [if_neg hl]
    unfold encB
    split
    · omega
    · unfold headed
      have h2 := head_len 128 t.bytes.length (by omega)
      rw [List.length_append]; omega
end Itm

set_option maxHeartbeats 800000 in
theorem bytesR_leaf (t : Itm) (w : World) (a : Option Addr) (cap : Nat) (hl : t.list = false) (hw : t.bytes.length ≤ 1000000000) :
    Calls Tryz.prog 144 #[.agg #[.bool t.list, .string ⟨t.bytes.toArray⟩, .slice a t.items.length cap]] w fun e w' => e = .returned (.string ⟨(Itm.enc t).toArray⟩) ∧ Below w.heap.size w w' := by
  have he : Itm.enc t = Itm.encB t.bytes := by rw [Itm.enc_eq, hl]; rfl
  rw [hl, he]
  clear he hl
  unfold Itm.encB
  generalize t.items.length = m
  have HC := hid (fun w => headedR_any t.bytes 128 w (by omega) hw)
  obtain ⟨s, hs⟩ : ∃ s : ByteArray, s = ⟨t.bytes.toArray⟩ := ⟨_, rfl⟩
  have hl : t.bytes = s.data.toList := by rw [hs]
  rw [← hs] at HC ⊢
  rw [hl] at HC ⊢
  clear hl hs hw
  by_cases h1 : s.size = 1
  · have hlt : 0 < s.size := by omega
    have hb : ((s.size : Int) == 1) = true := by simp; omega
    have hst := stands_eq s
    rw [ba_getD s hlt, decide_eq_true h1, Bool.true_and] at hst
    clear h1
    by_cases h2 : s[0].toNat < 128
    · rw [decide_eq_true h2] at hst
      rw [if_pos hst]
      have h2' : (s[0].toNat : Int) < 128 := by omega
      clear hst
      go_enter Tryz.func144, Tryz.ntmps144
      go_wp2_with fail
      go_ret
      exact ⟨rfl, (Below.refl _ _).alloc (Nat.le_refl _) _⟩
    · rw [decide_eq_false h2] at hst
      rw [if_neg (by rw [hst]; simp)]
      have h2' : ¬ (s[0].toNat : Int) < 128 := by omega
      clear hst
      go_enter Tryz.func144, Tryz.ntmps144
      go_wp2_with fail
      refine (HC.out _).mono ?_
      rintro e w1 ⟨rfl, hbel⟩
      go_wp2_with fail
      go_ret
      exact ⟨rfl, ((Below.refl _ _).alloc (Nat.le_refl _) _).trans (hbel.mono (by simp))⟩
  · have hst : Itm.stands s.data.toList = false := by rw [stands_eq]; simp [h1]
    rw [if_neg (by rw [hst]; simp)]
    have h1' : ((s.size : Int) == 1) = false := by simp; omega
    clear hst
    go_enter Tryz.func144, Tryz.ntmps144
    go_wp2_with fail
    refine (HC.out _).mono ?_
    rintro e w1 ⟨rfl, hbel⟩
    go_wp2_with fail
    go_ret
    exact ⟨rfl, ((Below.refl _ _).alloc (Nat.le_refl _) _).trans (hbel.mono (by simp))⟩

/-- The box of a parameter, kept while nothing below it is written. -/
theorem box_third {w wr : World} {x y z : Value} (hb : Below (w.alloc (.cells #[x, y, z] 119)).heap.size (w.alloc (.cells #[x, y, z] 119)) wr) :
    wr.cell? ⟨w.heap.size, 0, none⟩ = some x ∧ wr.cell? ⟨w.heap.size, 1, none⟩ = some y ∧ wr.cell? ⟨w.heap.size, 2, none⟩ = some z := by
  have h := old_block hb
  exact ⟨by rw [cell_of_row _ _ 0 _ _ _ h]; rfl, by rw [cell_of_row _ _ 1 _ _ _ h]; rfl, by rw [cell_of_row _ _ 2 _ _ _ h]; rfl⟩

theorem below_of_box {w wr : World} {O : Obj} (hb : Below (w.alloc O).heap.size (w.alloc O) wr) : Below w.heap.size w wr :=
  ((Below.refl _ _).alloc (Nat.le_refl _) _).trans (hb.mono (by simp))

set_option maxHeartbeats 800000 in
theorem bytesR_any (n : Nat) : ∀ (v : Value) (t : Itm) (w : World), Rep w.heap.size w n v t → Itm.wt t ≤ 1000000000 →
    Calls Tryz.prog 144 #[v] w fun e w' => e = .returned (.string ⟨(Itm.enc t).toArray⟩) ∧ Below w.heap.size w w' := by
  induction n with
  | zero => intro v t w h; exact h.elim
  | succ n ih =>
    intro v t w hrep hwt
    obtain ⟨a, cap, rfl, hm, hkids⟩ := hrep
    by_cases hl : t.list
    · have hl' : t.list = true := hl
      have HK := hid hkids
      have IH := hid ih
      have HWT := hid hwt
      have HL := hid hl'
      have HW := hid (fun (l : List UInt8) (w : World) h => headedR_any l 192 w (by omega) h)
      clear hkids ih hwt hl
      unfold maxLen at hm
      rw [hl']
      clear hl'
      go_enter Tryz.func144, Tryz.ntmps144
      go_wp2_with fail
      go_loopw [3, 4] (fun s i wr => ∃ k : Nat, k ≤ t.items.length ∧ i = .int .i64 k ∧ s = .string ⟨(encTo t k).toArray⟩ ∧ Hid (Below (w.alloc (.cells #[.bool true, .string ⟨t.bytes.toArray⟩, .slice a t.items.length cap] 119)).heap.size (w.alloc (.cells #[.bool true, .string ⟨t.bytes.toArray⟩, .slice a t.items.length cap] 119)) wr)) (fun _ i _ => t.items.length - (intOf i).toNat)
      case atStart => exact ⟨0, Nat.zero_le _, rfl, by rw [encTo_zero], Below.refl _ _⟩
      case round =>
        obtain ⟨k, hk, rfl, rfl, HB⟩ := hrel
        obtain ⟨x0, x1, x2⟩ := box_third HB.out
        have HB0 := hid (below_of_box HB.out)
        by_cases hlt : k < t.items.length
        · obtain ⟨b, off, c0, c1, c2, rfl, hbl, e0, e1, e2, hr⟩ := HK.out k hlt
          obtain ⟨a2, cap2, rfl, rfl, rfl⟩ := rep_shape hr
          have f0 := (HB0.out.cell (p := ⟨b, off + k * 3, none⟩) hbl).trans e0
          have f1 := (HB0.out.cell (p := ⟨b, off + k * 3 + 1, none⟩) hbl).trans e1
          have f2 := (HB0.out.cell (p := ⟨b, off + k * 3 + 2, none⟩) hbl).trans e2
          have HR := hid hr
          have HE := hid (encTo_succ t k hlt)
          have hkw : Itm.wt t.items[k] ≤ 1000000000 := by have := Itm.kid_wt t k hlt; have := HWT.out; omega
          have hsum : (encTo t k).length + (Itm.enc t.items[k]).length ≤ 1000000000 := by
            have h1 := encTo_le t (k + 1) HL.out
            rw [HE.out, List.length_append] at h1
            have h2 := Itm.enc_le_wt t HWT.out
            have h3 := HWT.out
            omega
          clear e0 e1 e2 hr
          go_wp2_with fail
          refine (IH.out _ t.items[k] _ (rep_in HR.out HB0.out) hkw).mono ?_
          rintro e w1 ⟨rfl, hbel⟩
          have HB1 := hid (HB.out.trans (hbel.mono HB.out.size))
          clear hbel
          go_wp2_with fail
          refine ⟨⟨k + 1, by omega, by go_num, by rw [HE.out, ba_append], HB1.out⟩, by simp [intOf]; omega⟩
        · have HKE := hid (show k = t.items.length by omega)
          have hel : (encTo t k).length ≤ 1000000000 := by
            have h1 := encTo_le t k HL.out
            have h2 := Itm.enc_le_wt t HWT.out
            have h3 := HWT.out
            omega
          go_wp2_with fail
          refine (HW.out _ _ hel).mono ?_
          rintro e w1 ⟨rfl, hbel⟩
          go_wp2_with fail
          go_ret
          refine ⟨?_, HB0.out.trans (hbel.mono HB0.out.size)⟩
          rw [encTo_all t HL.out, ← HKE.out]
          rfl
    · exact bytesR_leaf t w a cap (by simpa using hl) (by rw [Itm.wt_eq] at hwt; omega)
end Go.Proofs.YtbmohenjphmlgaaGreat

/- The walks of the document's own pure, depth and Encode: they answer as the program's Encode does. -/
namespace Go.Proofs.YtbmohenjphmlgaaGreat
open Go.RowKit
set_option maxRecDepth 100000

/-- Are the first k items pure? -/
def pureTo (t : Itm) (k : Nat) : Bool := (t.items.take k).all Itm.pure

set_option maxHeartbeats 400000 in
theorem num_any (n : Int) (w : World) : Calls Tryz.prog 38 #[.int .i64 n] w fun e w' => e = .returned (.int .i64 n) ∧ w' = w := by
  go_enter Tryz.func38, Tryz.ntmps38
  go_wp2_with fail
  go_ret
  exact ⟨rfl, rfl⟩

end Go.Proofs.YtbmohenjphmlgaaGreat

/- The document's own Decode answers as the program's does. -/
namespace Go.Proofs.YtbmohenjphmlgaaGreat
open Go.RowKit
set_option maxRecDepth 100000
section
variable (f : Nat) (s : ByteArray) (w : World)

theorem ext_one (s : ByteArray) : (s.extract 1 s.size).data.toList = s.data.toList.drop 1 := Lib.extract_to_end _ _

theorem ext_first (s : ByteArray) (hi : 0 < (s.extract 1 s.size).size) : ((s.data.toList.drop 1).getD 0 0).toNat = ((s.extract 1 s.size)[0]'hi).toNat := by
  rw [← ext_one, ba_getD _ hi]

theorem val_four (l : List UInt8) (k : Nat) (h : k ≤ 4) : Itm.val (l.take k) < 4294967296 := by
  have h1 := Itm.val_lt (l.take k)
  exact Nat.lt_of_lt_of_le h1 (Nat.le_trans (Nat.pow_le_pow_right (by omega) (by rw [List.length_take]; omega : _ ≤ 4)) (by decide))

theorem part_bytes (h2 : s.size ≤ 1000) (hb : s.toList.isEmpty = false) (h1 : 0 < s.size) (hge : 128 ≤ s[0].toNat) (hlt : s[0].toNat < 192) :
    Calls Tryz.prog 104 #[.string s] w (PartPost (match Itm.cutP 128 s.data.toList with | none => none | some (body, rest) => if Itm.stands body then none else some (⟨false, body, []⟩, rest)) (f + 1) w) := by
  generalize hp : (match Itm.cutP 128 s.data.toList with | none => none | some (body, rest) => if Itm.stands body then none else some ((⟨false, body, []⟩ : Itm), rest)) = p
  have hmany := fun h => cutP_many (base := 128) (s := s.data.toList) (by rw [ba_len]; exact h2) h
  have hp0 := hp
  unfold Itm.cutP at hp
  rw [ba_getD s h1] at hp hmany
  have hl : (s.data.toList.drop 1).length = s.size - 1 := by simp
  have hes : (s.extract 1 s.size).size = s.size - 1 := by simp
  generalize hn : s[0].toNat - 128 = n at hp hmany
  by_cases h3 : n ≤ 55
  · rw [if_pos h3] at hp
    by_cases h4 : n ≤ (s.data.toList.drop 1).length
    · rw [if_pos h4] at hp
      simp only at hp
      rw [hl] at h4
      have hsi : ((s.extract 1 s.size).extract 0 n).data.toList = (s.data.toList.drop 1).take n := by rw [Lib.extract_data, Lib.extract_to_end]; simp
      have hss : ((s.extract 1 s.size).extract 0 n).size = n := by rw [← ba_len, hsi, List.length_take]; omega
      have hst := stands_eq ((s.extract 1 s.size).extract 0 n)
      rw [hsi, hss] at hst
      by_cases h5 : n = 1
      · have hi : 0 < ((s.extract 1 s.size).extract 0 n).size := by omega
        rw [← hsi, ba_getD _ hi, hsi, decide_eq_true h5, Bool.true_and] at hst
        by_cases h6 : (((s.extract 1 s.size).extract 0 n)[0]'hi).toNat < 128
        · rw [hst, decide_eq_true h6] at hp
          simp only [if_true] at hp
          exact part_short128OneNo (f + 1) s w p n h2 hb h1 hge hlt hn h3 h4 (by simp; omega) (by omega) hi (by omega) hp.symm
        · rw [hst, decide_eq_false h6] at hp
          simp only [Bool.false_eq_true, if_false] at hp
          exact part_short128One f s w p n h2 hb h1 hge hlt hn h3 h4 (by simp; omega) (by omega) hi (by omega) hp.symm
      · rw [hst, decide_eq_false h5] at hp
        simp only [Bool.false_and, Bool.false_eq_true, if_false] at hp
        exact part_short128 f s w p n h2 hb h1 hge hlt hn h3 h4 (by omega) hp.symm
    · rw [if_neg h4] at hp
      exact part_shortNo128 (f + 1) s w p n h2 hb h1 hge hlt hn h3 (by omega) hp.symm
  · rw [if_neg h3] at hp
    obtain ⟨k, rfl⟩ : ∃ k, n = k + 55 := ⟨n - 55, by omega⟩
    rw [Nat.add_sub_cancel] at hp hmany
    by_cases h4 : (s.data.toList.drop 1).length < k ∨ ((s.data.toList.drop 1).getD 0 0).toNat = 0
    · rw [if_pos h4] at hp
      simp only at hp
      by_cases h5 : s.size - 1 < k
      · exact part_longA128 (f + 1) s w p k _ h2 hb h1 hge hlt hn rfl (by omega) h5 hp.symm
      · have hi : 0 < (s.extract 1 s.size).size := by omega
        rw [ext_first s hi] at h4
        exact part_longB128 (f + 1) s w p k _ h2 hb h1 hge hlt hn rfl (by omega) (by omega) hi (by simp; omega) hp.symm
    · rw [if_neg h4] at hp
      have hi : 0 < (s.extract 1 s.size).size := by omega
      rw [ext_first s hi] at h4
      have hz : ((((s.extract 1 s.size)[0]'hi).toNat : Int) == 0) = false := by simp; omega
      by_cases h6 : 4 < k
      · rw [hmany h6] at hp0
        exact part_longC128 (f + 1) s w p k _ h2 hb h1 hge hlt hn rfl (by omega) (by omega) hi hz h6 hp0.symm
      · have hl2 : ((s.data.toList.drop 1).drop k).length = s.size - 1 - k := by rw [List.length_drop, hl]
        have hv4 := val_four (s.data.toList.drop 1) k (by omega)
        have hV : Hid (Itm.val ((s.extract 1 s.size).data.toList.take k) = Itm.val ((s.data.toList.drop 1).take k)) := by rw [Hid, ext_one]
        generalize Itm.val ((s.data.toList.drop 1).take k) = V at hV hp hv4
        by_cases h5 : V ≤ 55 ∨ ((s.data.toList.drop 1).drop k).length < V
        · rw [if_pos h5] at hp
          simp only at hp
          by_cases h7 : V ≤ 55
          · exact part_longD128 (f + 1) s w p k _ h2 hb h1 hge hlt hn rfl (by omega) (by omega) hi hz (by omega) V hV h7 hp.symm
          · exact part_longE128 (f + 1) s w p k _ h2 hb h1 hge hlt hn rfl (by omega) (by omega) hi hz (by omega) V hV (by omega) (by omega) hv4 hp.symm
        · rw [if_neg h5] at hp
          simp only at hp
          have hst : Itm.stands (((s.data.toList.drop 1).drop k).take V) = false := by
            unfold Itm.stands
            rw [List.length_take, hl2, decide_eq_false (by omega)]; rfl
          rw [hst] at hp
          simp only [Bool.false_eq_true, if_false] at hp
          exact part_longF128 f s w p k _ h2 hb h1 hge hlt hn rfl (by omega) (by omega) hi hz (by omega) V hV (by omega) (by omega) hp.symm

theorem part_lists (h2 : s.size ≤ 1000) (hb : s.toList.isEmpty = false) (h1 : 0 < s.size) (hge : 192 ≤ s[0].toNat) (hf : s.size ≤ f + 1)
    (IH : Hid (∀ r : ByteArray, r.size ≤ f → r.size ≤ 1000 → ∀ w, Calls Tryz.prog 104 #[.string r] w (PartPost (Itm.parse f r.data.toList) f w))) :
    Calls Tryz.prog 104 #[.string s] w (PartPost (match Itm.cutP 192 s.data.toList with | none => none | some (body, rest) => match Itm.loopP (Itm.parse f) body.length body with | none => none | some l => some (⟨true, [], l⟩, rest)) (f + 1) w) := by
  generalize hp : (match Itm.cutP 192 s.data.toList with | none => none | some (body, rest) => match Itm.loopP (Itm.parse f) body.length body with | none => none | some l => some ((⟨true, [], l⟩ : Itm), rest)) = p
  have hmany := fun h => cutP_many (base := 192) (s := s.data.toList) (by rw [ba_len]; exact h2) h
  have hp0 := hp
  unfold Itm.cutP at hp
  rw [ba_getD s h1] at hp hmany
  have hl : (s.data.toList.drop 1).length = s.size - 1 := by simp
  have hes : (s.extract 1 s.size).size = s.size - 1 := by simp
  generalize hn : s[0].toNat - 192 = n at hp hmany
  by_cases h3 : n ≤ 55
  · rw [if_pos h3] at hp
    by_cases h4 : n ≤ (s.data.toList.drop 1).length
    · rw [if_pos h4] at hp
      simp only at hp
      rw [hl] at h4
      generalize ho : Itm.loopP (Itm.parse f) ((s.data.toList.drop 1).take n).length ((s.data.toList.drop 1).take n) = o at hp
      refine part_short192 f s w p n h2 hb h1 hge hn h3 h4 hf IH o ho.symm ?_ ?_
      · intro l hl'; subst hl'; exact hp.symm
      · intro hl'; subst hl'; exact hp.symm
    · rw [if_neg h4] at hp
      exact part_shortNo192 (f + 1) s w p n h2 hb h1 hge hn h3 (by omega) hp.symm
  · rw [if_neg h3] at hp
    obtain ⟨k, rfl⟩ : ∃ k, n = k + 55 := ⟨n - 55, by omega⟩
    rw [Nat.add_sub_cancel] at hp hmany
    by_cases h4 : (s.data.toList.drop 1).length < k ∨ ((s.data.toList.drop 1).getD 0 0).toNat = 0
    · rw [if_pos h4] at hp
      simp only at hp
      by_cases h5 : s.size - 1 < k
      · exact part_longA192 (f + 1) s w p k _ h2 hb h1 hge hn rfl (by omega) h5 hp.symm
      · have hi : 0 < (s.extract 1 s.size).size := by omega
        rw [ext_first s hi] at h4
        exact part_longB192 (f + 1) s w p k _ h2 hb h1 hge hn rfl (by omega) (by omega) hi (by simp; omega) hp.symm
    · rw [if_neg h4] at hp
      have hi : 0 < (s.extract 1 s.size).size := by omega
      rw [ext_first s hi] at h4
      have hz : ((((s.extract 1 s.size)[0]'hi).toNat : Int) == 0) = false := by simp; omega
      by_cases h6 : 4 < k
      · rw [hmany h6] at hp0
        exact part_longC192 (f + 1) s w p k _ h2 hb h1 hge hn rfl (by omega) (by omega) hi hz h6 hp0.symm
      · have hl2 : ((s.data.toList.drop 1).drop k).length = s.size - 1 - k := by rw [List.length_drop, hl]
        have hv4 := val_four (s.data.toList.drop 1) k (by omega)
        have hV : Hid (Itm.val ((s.extract 1 s.size).data.toList.take k) = Itm.val ((s.data.toList.drop 1).take k)) := by rw [Hid, ext_one]
        generalize Itm.val ((s.data.toList.drop 1).take k) = V at hV hp hv4
        by_cases h5 : V ≤ 55 ∨ ((s.data.toList.drop 1).drop k).length < V
        · rw [if_pos h5] at hp
          simp only at hp
          by_cases h7 : V ≤ 55
          · exact part_longD192 (f + 1) s w p k _ h2 hb h1 hge hn rfl (by omega) (by omega) hi hz (by omega) V hV h7 hp.symm
          · exact part_longE192 (f + 1) s w p k _ h2 hb h1 hge hn rfl (by omega) (by omega) hi hz (by omega) V hV (by omega) (by omega) hv4 hp.symm
        · rw [if_neg h5] at hp
          simp only at hp
          generalize ho : Itm.loopP (Itm.parse f) (((s.data.toList.drop 1).drop k).take V).length (((s.data.toList.drop 1).drop k).take V) = o at hp
          refine part_longF192 f s w p k _ h2 hb h1 hge hn rfl (by omega) (by omega) hi hz (by omega) V hV (by omega) (by omega) hf IH o ho.symm ?_ ?_
          · intro l hl'; subst hl'; exact hp.symm
          · intro hl'; subst hl'; exact hp.symm
end

/-- 'part' does what 'parse' says, of at most 1000 bytes. -/
theorem part_any : ∀ (f : Nat) (s : ByteArray) (w : World), s.size ≤ f → s.size ≤ 1000 → Calls Tryz.prog 104 #[.string s] w (PartPost (Itm.parse f s.data.toList) f w) := by
  intro f
  induction f with
  | zero =>
    intro s w h0 _
    rw [Itm.parse_zero]
    exact part_empty 0 s w none (by rw [toList_isEmpty, ba_empty s (by omega)]; rfl) rfl
  | succ f ih =>
    intro s w hf h2
    rw [Itm.parse_succ]
    unfold Itm.stepP
    by_cases h0 : s.data.toList.isEmpty
    · rw [if_pos h0]
      exact part_empty (f + 1) s w none (by rw [toList_isEmpty]; exact h0) rfl
    · rw [if_neg h0]
      have hb : s.toList.isEmpty = false := by rw [toList_isEmpty]; simpa using h0
      have h1 : 0 < s.size := by
        rcases Nat.eq_zero_or_pos s.size with hz | hz
        · rw [ba_empty s hz] at h0; simp at h0
        · exact hz
      rw [ba_getD s h1]
      by_cases h3 : s[0].toNat < 128
      · rw [if_pos h3]
        have h2' : s.size ≤ 1000000 := Nat.le_trans h2 (by decide)
        exact part_byte f s w _ h2' hb h1 h3 rfl
      · rw [if_neg h3]
        by_cases h4 : s[0].toNat < 192
        · rw [if_pos h4]
          have h5 : 128 ≤ s[0].toNat := Nat.le_of_not_lt h3
          exact part_bytes f s w h2 hb h1 h5 h4
        · rw [if_neg h4]
          have h5 : 192 ≤ s[0].toNat := Nat.le_of_not_lt h4
          exact part_lists f s w h2 hb h1 h5 hf (fun r h h' w => ih r w h h')

/-- What 'whole' answers. -/
def WholePost (p : Option (Itm × List UInt8)) (n : Nat) (w : World) (e : Ending) (w' : World) : Prop :=
  (∀ t, p = some (t, []) → ∃ v, e = .returned (.tuple #[v, .bool true]) ∧ Ow w' n w.heap.size w'.heap.size v t) ∧
  ((∀ t, p ≠ some (t, [])) → e = .returned (.tuple #[.agg #[.bool false, .string ⟨#[]⟩, .slice none 0 0], .bool false])) ∧ Below w.heap.size w w'

set_option maxHeartbeats 800000 in
theorem whole_any (s : ByteArray) (w : World) (h : s.size ≤ 1000) : Calls Tryz.prog 73 #[.string s] w (WholePost (Itm.parse s.size s.data.toList) s.size w) := by
  have HC := hid (fun w => part_any s.size s w (Nat.le_refl _) h)
  generalize Itm.parse s.size s.data.toList = p at *
  go_enter Tryz.func73, Tryz.ntmps73
  go_wp2_with fail
  refine (HC.out _).mono ?_
  rintro e w1 ⟨hno, hyes, hbel⟩
  obtain ⟨hcc, hff⟩ := bcell hbel
  have hsz : w.heap.size < w1.heap.size := by have := hbel.size; simp at this; omega
  cases p with
  | none =>
    obtain rfl := hno rfl
    clear hno hyes
    go_wp2_with fail
    obtain ⟨c0, c1, c2⟩ := set3 (old_block hbel) (.bool false) (.string ⟨#[]⟩) (.slice none 0 0)
    exact bodyPost_ret (v := .tuple #[.agg #[.bool false, .string ⟨#[]⟩, .slice none 0 0], .bool false]) (by simp [results, Tryz.results73, go_sem, c0, c1, c2, hsz]) rfl ⟨fun t ht => (by cases ht), fun _ => rfl, (box_below hbel _ _ _).alloc (by rw [box_size]; omega) _⟩
  | some tr =>
    obtain ⟨t, rest⟩ := tr
    obtain ⟨v, rfl, hown⟩ := hyes t rest rfl
    obtain ⟨a2, cap2, rfl⟩ := ow_shape hown
    have HO := hid hown
    clear hno hyes hown
    by_cases hr : rest = []
    · subst hr
      go_wp2_with fail
      obtain ⟨c0, c1, c2⟩ := set3 (old_block hbel) (.bool t.list) (.string ⟨t.bytes.toArray⟩) (.slice a2 t.items.length cap2)
      refine bodyPost_ret (v := .tuple #[.agg #[.bool t.list, .string ⟨t.bytes.toArray⟩, .slice a2 t.items.length cap2], .bool true]) (by simp [results, Tryz.results73, go_sem, c0, c1, c2, hsz]) rfl ⟨fun t' ht' => ?_, fun hn => absurd rfl (hn t), (box_below hbel _ _ _).alloc (by rw [box_size]; omega) _⟩
      cases ht'
      refine ⟨_, rfl, ?_⟩
      have h0 := HO.out
      refine own_widen (lo := w.heap.size + 1) (hi := w1.heap.size) ?_ (Nat.le_succ _) (by simp [World.setCell])
      refine own_frame _ _ _ _ _ (fun k _ hk => Below.heap_alloc _ _ _ (by rw [box_size]; exact hk)) (ow_box _ _ _ (by simpa using h0))
    · have hre : rest.isEmpty = false := by simpa using hr
      go_wp2_with fail
      obtain ⟨c0, c1, c2⟩ := set3 (old_block hbel) (.bool false) (.string ⟨#[]⟩) (.slice none 0 0)
      exact bodyPost_ret (v := .tuple #[.agg #[.bool false, .string ⟨#[]⟩, .slice none 0 0], .bool false]) (by simp [results, Tryz.results73, go_sem, c0, c1, c2, hsz]) rfl ⟨fun t' ht => absurd (by cases ht; rfl) hr, fun _ => rfl, (box_below hbel _ _ _).alloc (by rw [box_size]; omega) _⟩

end Go.Proofs.YtbmohenjphmlgaaGreat

/- The walk of unpath (of the document's own answer). -/
namespace Go.Proofs.YtbmohenjphmlgaaGreat
open Go.RowKit
set_option maxRecDepth 100000

/-- What unpath answers. -/
def UnPost (t : Itm) (w : World) (e : Ending) (w' : World) : Prop :=
  (Tr.unpath t = none → e = .returned (.tuple #[.slice none 0 0, .bool false, .bool false])) ∧
  (∀ p leaf, Tr.unpath t = some (p, leaf) → ∃ a cap, e = .returned (.tuple #[.slice a p.length cap, .bool leaf, .bool true]) ∧ Bown w' w.heap.size (.slice a p.length cap) p) ∧ Below w.heap.size w w'

theorem unPost_none {t : Itm} {w w' : World} (h : Tr.unpath t = none) (hb : Below w.heap.size w w') : UnPost t w (.returned (.tuple #[.slice none 0 0, .bool false, .bool false])) w' :=
  ⟨fun _ => rfl, fun p leaf hp => (by rw [h] at hp; cases hp), hb⟩

theorem unPost_some {t : Itm} {w w' : World} {p : List UInt8} {leaf : Bool} {a : Option Addr} {cap : Nat} (h : Tr.unpath t = some (p, leaf)) (ho : Bown w' w.heap.size (.slice a p.length cap) p) (hb : Below w.heap.size w w') :
    UnPost t w (.returned (.tuple #[.slice a p.length cap, .bool leaf, .bool true])) w' :=
  ⟨fun hn => (by rw [h] at hn; cases hn), fun p' leaf' hp => (by rw [h] at hp; cases hp; exact ⟨a, cap, rfl, ho⟩), hb⟩

section
variable (s : ByteArray) (w : World) (l : List Itm) (a : Option Addr) (cap : Nat)

theorem unpath_list : Calls Tryz.prog 108 #[.agg #[.bool true, .string s, .slice a l.length cap]] w (UnPost ⟨true, s.data.toList, l⟩ w) := by
  have HU : Hid (Tr.unpath ⟨true, s.data.toList, l⟩ = none) := by rw [Hid]; simp [Tr.unpath]
  go_enter Tryz.func108, Tryz.ntmps108
  go_wp2_with fail
  refine bodyPost_ret (v := .tuple #[.slice none 0 0, .bool false, .bool false]) (by simp [results, Tryz.results108, go_sem]) rfl ?_
  exact unPost_none HU.out ((Below.refl _ _).alloc (Nat.le_refl _) _)

theorem unpath_empty (h0 : s.size = 0) : Calls Tryz.prog 108 #[.agg #[.bool false, .string s, .slice a l.length cap]] w (UnPost ⟨false, s.data.toList, l⟩ w) := by
  have hs : s = ⟨#[]⟩ := by apply ByteArray.ext; exact Array.eq_empty_of_size_eq_zero h0
  subst hs
  have HU : Hid (Tr.unpath ⟨false, [], l⟩ = none) := by rw [Hid]; simp [Tr.unpath]
  go_enter Tryz.func108, Tryz.ntmps108
  go_wp2_with fail
  refine bodyPost_ret (v := .tuple #[.slice none 0 0, .bool false, .bool false]) (by simp [results, Tryz.results108, go_sem]) rfl ?_
  exact unPost_none HU.out ((Below.refl _ _).alloc (Nat.le_refl _) _)

theorem unpath_high (h1 : 0 < s.size) (hb : s.toList.isEmpty = false) (hc : 64 ≤ s[0].toNat) : Calls Tryz.prog 108 #[.agg #[.bool false, .string s, .slice a l.length cap]] w (UnPost ⟨false, s.data.toList, l⟩ w) := by
  have HU : Hid (Tr.unpath ⟨false, s.data.toList, l⟩ = none) := by
    rw [Hid]
    unfold Tr.unpath
    simp only [ba_getD s h1]
    simp [hc]
  have hc' : (64 : Int) ≤ (s[0].toNat : Int) := by omega
  go_enter Tryz.func108, Tryz.ntmps108
  go_wp2_with fail
  refine bodyPost_ret (v := .tuple #[.slice none 0 0, .bool false, .bool false]) (by simp [results, Tryz.results108, go_sem]) rfl ?_
  exact unPost_none HU.out ((Below.refl _ _).alloc (Nat.le_refl _) _)

theorem unpath_bad (h1 : 0 < s.size) (hb : s.toList.isEmpty = false) (hc : s[0].toNat < 64) (ho : s[0].toNat / 16 % 2 ≠ 1) (hm : s[0].toNat % 16 ≠ 0) : Calls Tryz.prog 108 #[.agg #[.bool false, .string s, .slice a l.length cap]] w (UnPost ⟨false, s.data.toList, l⟩ w) := by
  have HU : Hid (Tr.unpath ⟨false, s.data.toList, l⟩ = none) := by
    rw [Hid]
    unfold Tr.unpath
    simp only [ba_getD s h1]
    simp [ho, hm]
  have hc' : ¬ (64 : Int) ≤ (s[0].toNat : Int) := by omega
  have ho' : ((s[0].toNat : Int) / 16 % 2 == 1) = false := by simp; omega
  have hm' : ((s[0].toNat : Int) % 16 == 0) = false := by simp; omega
  clear ho hm
  go_enter Tryz.func108, Tryz.ntmps108
  go_wp2_with fail
  refine bodyPost_ret (v := .tuple #[.slice none 0 0, .bool false, .bool false]) (by simp [results, Tryz.results108, go_sem]) rfl ?_
  exact unPost_none HU.out ((Below.refl _ _).alloc (Nat.le_refl _) _)

/-- The digits behind the first byte. -/
theorem tail_digits (h2 : s.size ≤ 100000000) : Calls Tryz.prog 72 #[.string (s.extract 1 s.size)] w fun e w' => ∃ a cap, e = .returned (.slice a (Tr.digits (s.data.toList.drop 1)).length cap) ∧ Bown w' w.heap.size (.slice a (Tr.digits (s.data.toList.drop 1)).length cap) (Tr.digits (s.data.toList.drop 1)) ∧ Below w.heap.size w w' := by
  have := digits_any (s.extract 1 s.size) w (by simp; omega)
  rwa [ext_one] at this

set_option maxHeartbeats 1600000 in
theorem unpath_even (h1 : 0 < s.size) (h2 : s.size ≤ 100000000) (hb : s.toList.isEmpty = false) (hc : s[0].toNat < 64) (ho : s[0].toNat / 16 % 2 ≠ 1) (hm : s[0].toNat % 16 = 0) : Calls Tryz.prog 108 #[.agg #[.bool false, .string s, .slice a l.length cap]] w (UnPost ⟨false, s.data.toList, l⟩ w) := by
  have HU : Hid (Tr.unpath ⟨false, s.data.toList, l⟩ = some (Tr.digits (s.data.toList.drop 1), decide ((32 : Int) ≤ (s[0].toNat : Int)))) := by
    rw [Hid]
    unfold Tr.unpath
    simp only [ba_getD s h1]
    have e1 : s.data.toList.isEmpty = false := by rw [← Lib.toList_data]; exact hb
    simp [ho, hm, e1, hc]
    omega
  have HT := hid (fun w => tail_digits s w h2)
  have HLN : Hid (([] : List UInt8).length + (Tr.digits (s.data.toList.drop 1)).length ≤ 1000000000) := by rw [Hid, Tr.digits_len]; simp; omega
  have hc' : ¬ (64 : Int) ≤ (s[0].toNat : Int) := by omega
  have ho' : ((s[0].toNat : Int) / 16 % 2 == 1) = false := by simp; omega
  have hm' : ((s[0].toNat : Int) % 16 == 0) = true := by simp; omega
  have i1 : (1 : Int) ≤ (s.size : Int) := by omega
  clear ho hm
  generalize Tr.digits (s.data.toList.drop 1) = D at *
  go_enter Tryz.func108, Tryz.ntmps108
  go_wp2_with fail
  refine (HT.out _).mono ?_
  rintro e w1 ⟨a1, cap1, rfl, hD, hbel⟩
  have HD := hid hD
  have HB := hid (below_of_box hbel)
  have HBS : Hid (w.heap.size ≤ w1.heap.size) := HB.out.size
  clear hD hbel
  go_wp2_with (at_builtin; refine wpList_append_bytes _ rfl (.tmp 45) (.tmp 48) rfl w.heap.size _ (.slice none 0 0) _ [] D rfl rfl (bown_nil _ _) (brd_of_bown HD.out) HLN.out HBS.out ?_; intro v' w' ho' hg' hn'; obtain ⟨a2, cap2, rfl⟩ := bown_shape ho'; have HO' := hid ho'; have HG' := hid hg'; clear ho' hg' hn')
  refine bodyPost_ret (v := .tuple #[.slice a2 ([] ++ D).length cap2, .bool (decide ((32 : Int) ≤ (s[0].toNat : Int))), .bool true]) (by simp [results, Tryz.results108, go_sem]) rfl ?_
  exact unPost_some HU.out HO'.out (HB.out.grown HG'.out HBS.out (fun g hg => by simp [Value.ownBlock] at hg))

theorem odd_cell (c : UInt8) : #[Value.int .u8 ((c.toNat : Int) % 16)].toList = Lib.byteCells [UInt8.ofNat (c.toNat % 16)] := by
  simp only [Lib.byteCells, List.map_cons, List.map_nil]
  have e2 : (UInt8.ofNat (c.toNat % 16)).toNat = c.toNat % 16 := by simp; omega
  rw [e2]
  rfl

set_option maxHeartbeats 1600000 in
theorem unpath_odd (h1 : 0 < s.size) (h2 : s.size ≤ 100000000) (hb : s.toList.isEmpty = false) (hc : s[0].toNat < 64) (ho : s[0].toNat / 16 % 2 = 1) : Calls Tryz.prog 108 #[.agg #[.bool false, .string s, .slice a l.length cap]] w (UnPost ⟨false, s.data.toList, l⟩ w) := by
  have HU : Hid (Tr.unpath ⟨false, s.data.toList, l⟩ = some ([] ++ [UInt8.ofNat (s[0].toNat % 16)] ++ Tr.digits (s.data.toList.drop 1), decide ((32 : Int) ≤ (s[0].toNat : Int)))) := by
    rw [Hid]
    unfold Tr.unpath
    simp only [ba_getD s h1]
    have e1 : s.data.toList.isEmpty = false := by rw [← Lib.toList_data]; exact hb
    simp [ho, e1, hc]
    omega
  have HT := hid (fun w => tail_digits s w h2)
  have HLN : Hid (([] ++ [UInt8.ofNat (s[0].toNat % 16)]).length + (Tr.digits (s.data.toList.drop 1)).length ≤ 1000000000) := by rw [Hid, Tr.digits_len]; simp; omega
  have HLN1 : Hid (([] : List UInt8).length + 1 ≤ 1000000000) := by rw [Hid]; simp
  have HZ := hid (odd_cell s[0])
  have HL0 : Hid ((w.alloc (.cells #[.bool false, .string s, .slice a l.length cap] 119)).heap.size = w.heap.size + 1) := by rw [Hid]; simp
  have hc' : ¬ (64 : Int) ≤ (s[0].toNat : Int) := by omega
  have ho' : ((s[0].toNat : Int) / 16 % 2 == 1) = true := by simp; omega
  have i1 : (1 : Int) ≤ (s.size : Int) := by omega
  have HA := hid ((Below.refl w.heap.size w).alloc (Nat.le_refl _) (.cells #[.bool false, .string s, .slice a l.length cap] 119))
  clear ho
  generalize Tr.digits (s.data.toList.drop 1) = D at *
  go_enter Tryz.func108, Tryz.ntmps108
  go_wp2_with (at_builtin; refine wpList_push_bytes rfl (.tmp 39) (.tmp 43) rfl [UInt8.ofNat (s[0].toNat % 16)] (w.heap.size + 1) HL0.out rfl rfl (bown_nil _ _) HA.out (Nat.le_refl _) HZ.out HLN1.out ?_; intro v1 w0 ho1 hb1; obtain ⟨a0, cap0, rfl⟩ := bown_shape ho1; have HO1 := hid ho1; have HB1 := hid hb1; clear ho1 hb1)
  refine (HT.out _).mono ?_
  rintro e w1 ⟨a1, cap1, rfl, hD, hbel⟩
  have HD := hid hD
  have HB := hid (HB1.out.trans (hbel.mono HB1.out.size))
  have HO2 := hid (bown_frame HO1.out (fun g hg => hbel.block g (bown_lt HO1.out g hg).2))
  have HBS : Hid (w.heap.size ≤ w1.heap.size) := HB.out.size
  clear hD hbel
  go_wp2_with (at_builtin; refine wpList_append_bytes _ rfl (.tmp 45) (.tmp 48) rfl w.heap.size _ _ _ _ D rfl rfl HO2.out (brd_of_bown HD.out) HLN.out HBS.out ?_; intro v' w' ho' hg' hn'; obtain ⟨a2, cap2, rfl⟩ := bown_shape ho'; have HO' := hid ho'; have HG' := hid hg'; clear ho' hg' hn')
  refine bodyPost_ret (v := .tuple #[.slice a2 ([] ++ [UInt8.ofNat (s[0].toNat % 16)] ++ D).length cap2, .bool (decide ((32 : Int) ≤ (s[0].toNat : Int))), .bool true]) (by simp [results, Tryz.results108, go_sem]) rfl ?_
  exact unPost_some HU.out HO'.out (HB.out.grown HG'.out HBS.out (fun g hg => (bown_lt HO2.out g hg).1))

end

theorem unpath_any (t : Itm) (w : World) (a : Option Addr) (cap : Nat) (hs : t.bytes.length ≤ 100000000) :
    Calls Tryz.prog 108 #[.agg #[.bool t.list, .string ⟨t.bytes.toArray⟩, .slice a t.items.length cap]] w (UnPost t w) := by
  obtain ⟨lb, b, l⟩ := t
  have e : (⟨b.toArray⟩ : ByteArray).data.toList = b := rfl
  cases lb with
  | true => exact unpath_list ⟨b.toArray⟩ w l a cap
  | false =>
    have hsz : (⟨b.toArray⟩ : ByteArray).size ≤ 100000000 := hs
    by_cases h0 : (⟨b.toArray⟩ : ByteArray).size = 0
    · exact unpath_empty ⟨b.toArray⟩ w l a cap h0
    · have h1 : 0 < (⟨b.toArray⟩ : ByteArray).size := by omega
      have hb : (⟨b.toArray⟩ : ByteArray).toList.isEmpty = false := by
        rw [Lib.toList_data, e]
        have h2 : 0 < b.length := h1
        cases b with
        | nil => simp at h2
        | cons x r => rfl
      by_cases hc : 64 ≤ ((⟨b.toArray⟩ : ByteArray)[0]).toNat
      · exact unpath_high ⟨b.toArray⟩ w l a cap h1 hb hc
      · by_cases ho : ((⟨b.toArray⟩ : ByteArray)[0]).toNat / 16 % 2 = 1
        · exact unpath_odd ⟨b.toArray⟩ w l a cap h1 hsz hb (by omega) ho
        · by_cases hm : ((⟨b.toArray⟩ : ByteArray)[0]).toNat % 16 = 0
          · exact unpath_even ⟨b.toArray⟩ w l a cap h1 hsz hb (by omega) ho hm
          · exact unpath_bad ⟨b.toArray⟩ w l a cap h1 hb (by omega) ho hm
end Go.Proofs.YtbmohenjphmlgaaGreat
