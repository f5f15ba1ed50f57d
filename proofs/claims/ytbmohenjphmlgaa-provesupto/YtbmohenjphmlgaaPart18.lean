/- Part 18 of a proof: what the last text needs. -/
import Derived.Test.YtbmohenjphmlgaaPart17
import Derived.Test.YtbmohenjphmlgaaPart13
import Derived.Test.YtbmohenjphmlgaaPart3
import Derived.Deep.RegionHeld3
import Derived.Deep.AppendLies
import Derived.Test.YtbmohenjphmlgaaPart9
/- A round of the statement Proves: what is proved, kept and looked at. -/
namespace Go.Proofs.Ytbmohenjphmlgaa.FlT
open Go.RowKit
set_option maxRecDepth 100000

/-- Between two keys. -/
structure RoundSt (W : World) (B j : Nat) (wr : World) (c : Nat → Nat) (it wi we : Value) (Q : Nat) (lw : List (List ByteArray)) : Prop where
  book : BookSt wr c B it wi we Q
  row3 : WaitRow wr c 3 wi lw
  row4 : WaitRow wr c 4 we lw
  len : lw.length ≤ 3
  lens : ∀ x ∈ lw, x.length ≤ 1000
  bound : Q + lw.length ≤ 2 * j
  old : Below W.heap.size W wr
  cold : ∀ k, k < W.heap.size → c k = 0

/-- The colours once a key has been proved twice. -/
def twocol (c : Nat → Nat) (n : Nat) (vx vz : Value) (k1 k2 : Nat) : Nat → Nat := fun k => if k < n then c k else if vx.ownBlock = some k then k1 else if vz.ownBlock = some k then k2 else 0

/-- Both lists are to be kept. -/
structure RoundMid (W : World) (B j : Nat) (w5 : World) (c5 : Nat → Nat) (it wi we : Value) (Q : Nat) (lw : List (List ByteArray)) (l : List ByteArray) (vx vz : Value) : Prop where
  book : BookSt w5 c5 B it wi we Q
  row3 : WaitRow w5 c5 3 wi lw
  row4 : WaitRow w5 c5 4 we lw
  len : lw.length ≤ 3
  lens : ∀ x ∈ lw, x.length ≤ 1000
  bound : Q + lw.length ≤ 2 * j
  old : Below W.heap.size W w5
  cold : ∀ k, k < W.heap.size → c5 k = 0
  ox : TOwn w5 0 vx l
  cx : ∀ g, vx.ownBlock = some g → c5 g = 3 + 10 * (lw.length + 1)
  oz : TOwn w5 0 vz l
  cz : ∀ g, vz.ownBlock = some g → c5 g = 3 + 10 * (lw.length + 2)

theorem round_mid {W wr w5 : World} {B j : Nat} {c : Nat → Nat} {it wi we : Value} {Q : Nat} {lw : List (List ByteArray)} {l : List ByteArray} {vx vz : Value} {n1 n2 : Nat} (h : RoundSt W B j wr c it wi we Q lw)
    (hb : Below wr.heap.size wr w5) (hn1 : wr.heap.size ≤ n1) (hn2 : wr.heap.size ≤ n2) (o1 : TOwn w5 n1 vx l) (hx : ∀ g, vx.ownBlock = some g → g < n2) (o2 : TOwn w5 n2 vz l) :
    RoundMid W B j w5 (twocol c wr.heap.size vx vz (3 + 10 * (lw.length + 1)) (3 + 10 * (lw.length + 2))) it wi we Q lw l vx vz := by
  have s0 := h.old.size
  have hold : ∀ k, k < wr.heap.size → twocol c wr.heap.size vx vz (3 + 10 * (lw.length + 1)) (3 + 10 * (lw.length + 2)) k = c k := fun k hk => by unfold twocol; rw [if_pos hk]
  refine ⟨h.book.frame hb.size (fun k hk _ => ⟨hb.block k hk, hold k hk⟩), h.row3.later (by omega) hb hold, h.row4.later (by omega) hb hold, h.len, h.lens, h.bound, h.old.trans (hb.mono s0), fun k hk => by rw [hold k (by omega)]; exact h.cold k hk, owns_base o1 (Nat.zero_le _), ?_, owns_base o2 (Nat.zero_le _), ?_⟩
  · intro g hg
    have := (town_lt o1 g hg).1
    unfold twocol
    rw [if_neg (by omega), if_pos hg]
  · intro g hg
    have h1 := (town_lt o2 g hg).1
    unfold twocol
    rw [if_neg (by omega), if_neg, if_pos hg]
    intro e
    have := hx g e
    omega

theorem RoundMid.keepX {W : World} {B j : Nat} {w5 : World} {c5 : Nat → Nat} {it wi we : Value} {Q : Nat} {lw : List (List ByteArray)} {l : List ByteArray} {a : Option Addr} {cap : Nat} {vz : Value} (h : RoundMid W B j w5 c5 it wi we Q lw l (.slice a l.length cap) vz) (hc : l.length ≤ 1000) :
    Calls Try.prog 30 #[.pointer (some ⟨B, 0, none⟩), .slice a l.length cap] w5 (KeepPost c5 B it Q lw l w5) :=
  keep_any w5 c5 B it wi we Q lw a cap l h.book h.row3 h.row4 h.ox h.cx (by have := h.len; omega) (by omega)

theorem RoundMid.keepZ {W : World} {B j : Nat} {w5 w6 : World} {c5 : Nat → Nat} {it wi we : Value} {Q : Nat} {lw : List (List ByteArray)} {l : List ByteArray} {vx : Value} {a : Option Addr} {cap : Nat} (h : RoundMid W B j w5 c5 it wi we Q lw l vx (.slice a l.length cap)) (hc : l.length ≤ 1000) {e : Ending}
    (hk : KeepPost c5 B it Q lw l w5 e w6) : e = .returned (.tuple #[]) ∧ ∃ c6, KeepT c5 c6 w5 w6 ∧
      Calls Try.prog 30 #[.pointer (some ⟨B, 0, none⟩), .slice a l.length cap] w6 (KeepPost c6 B it Q (lw ++ [l]) l w6) := by
  obtain ⟨rfl, c6, wi6, we6, k1, k2, k3, k4⟩ := hk
  refine ⟨rfl, c6, k4, ?_⟩
  refine keep_any w6 c6 B it wi6 we6 Q (lw ++ [l]) a cap l k1 k2 k3 ?_ ?_ (by have := h.len; simp; omega) (by omega)
  · exact town_frame h.oz (fun g hg => k4.block g (town_lt h.oz g hg).2 (by rw [h.cz g hg]; omega) (by rw [h.cz g hg]; omega) (by rw [h.cz g hg]; omega))
  · intro g hg
    rw [k4.color g (town_lt h.oz g hg).2, h.cz g hg]
    simp

theorem RoundMid.looks {W : World} {B j : Nat} {w5 w6 w7 : World} {c5 c6 : Nat → Nat} {it wi we : Value} {Q : Nat} {lw : List (List ByteArray)} {l : List ByteArray} {vx vz : Value} (h : RoundMid W B j w5 c5 it wi we Q lw l vx vz) (hc : l.length ≤ 1000) (hj : j ≤ 2000000)
    {e : Ending} (k4 : KeepT c5 c6 w5 w6) (hk : KeepPost c6 B it Q (lw ++ [l]) l w6 e w7) :
    e = .returned (.tuple #[]) ∧ Calls Try.prog 21 #[.pointer (some ⟨B, 0, none⟩)] w7 fun e w8 => e = .returned (.bool true) ∧ ∃ c8 it8 wi8 we8 Q8 l8, RoundSt W B (j + 1) w8 c8 it8 wi8 we8 Q8 l8 := by
  obtain ⟨rfl, c7, wi7, we7, q1, q2, q3, q4⟩ := hk
  have hlen := h.len
  have hbd := h.bound
  have hlens : ∀ x ∈ lw ++ [l] ++ [l], x.length ≤ 1000 := by
    intro x hx
    simp only [List.mem_append, List.mem_cons, List.not_mem_nil, or_false] at hx
    rcases hx with (hx | rfl) | rfl
    · exact h.lens x hx
    · exact hc
    · exact hc
  have hl2 : (lw ++ [l] ++ [l]).length = lw.length + 2 := by simp
  refine ⟨rfl, (looks_any w7 c7 B it wi7 we7 Q _ q1 q2 q3 (by omega) (by omega) (fun x hx => by have := hlens x hx; omega)).mono ?_⟩
  rintro e w8 ⟨rfl, c8, it8, wi8, we8, Q8, l8, r1, r2, r3, r4, r5⟩
  have kt : KeepT c5 c7 w5 w7 := k4.trans q4
  have s5 := h.old.size
  have hcold7 : ∀ k, k < W.heap.size → c7 k = 0 := fun k hk => by rw [kt.color k (by omega)]; exact h.cold k hk
  have hold7 : Below W.heap.size W w7 := ⟨kt.os.trans h.old.os, kt.tape.trans h.old.tape, kt.output.trans h.old.output, Nat.le_trans s5 kt.size, fun k hk => by
    have hk0 := h.cold k hk
    rw [kt.block k (by omega) (by omega) (by omega) (by omega)]; exact h.old.block k hk⟩
  have s7 := hold7.size
  have hold8 : Below W.heap.size W w8 := ⟨r4.os.trans hold7.os, r4.tape.trans hold7.tape, r4.output.trans hold7.output, Nat.le_trans s7 r4.size, fun k hk => by
    rw [(r4.keep k (by omega) (hcold7 k hk)).1]; exact hold7.block k hk⟩
  refine ⟨rfl, c8, it8, wi8, we8, Q8, l8, r1, r2, r3, ?_, ?_, ?_, hold8, fun k hk => (r4.keep k (by omega) (hcold7 k hk)).2⟩
  · rcases r5 with ⟨_, rfl, hl⟩ | ⟨_, rfl⟩
    · exact hl
    · simp
  · rcases r5 with ⟨_, rfl, _⟩ | ⟨_, rfl⟩
    · exact hlens
    · simp
  · rcases r5 with ⟨rfl, rfl, _⟩ | ⟨rfl, rfl⟩
    · omega
    · simp only [List.length_nil]; omega

theorem RoundSt.ends {W : World} {B j : Nat} {wr : World} {c : Nat → Nat} {it wi we : Value} {Q : Nat} {lw : List (List ByteArray)} (h : RoundSt W B j wr c it wi we Q lw) (hj : j ≤ 2000000) :
    Calls Try.prog 22 #[.pointer (some ⟨B, 0, none⟩)] wr fun e w' => e = .returned (.bool true) ∧ Below W.heap.size W w' := by
  have hbd := h.bound
  refine (settles_any wr c B it wi we Q lw h.book h.row3 h.row4 (by have := h.len; omega) (by omega) (fun x hx => by have := h.lens x hx; omega)).mono ?_
  rintro e w' ⟨rfl, c', it', _, r4⟩
  have s5 := h.old.size
  exact ⟨rfl, r4.os.trans h.old.os, r4.tape.trans h.old.tape, r4.output.trans h.old.output, Nat.le_trans s5 r4.size, fun k hk => by rw [(r4.keep k (by omega) (h.cold k hk)).1]; exact h.old.block k hk⟩

/-- An empty book. -/
theorem round_start (W : World) : RoundSt W W.heap.size 0 (W.alloc (.cells #[.slice none 0 0, .slice none 0 0, .slice none 0 0, .slice none 0 0, .slice none 0 0, .slice none 0 0, .slice none 0 0, .slice none 0 0, .slice none 0 0] 39)) (fun k => if k = W.heap.size then 1 else 0) (.slice none 0 0) (.slice none 0 0) (.slice none 0 0) 0 [] := by
  refine ⟨⟨heap_alloc_new _ _, by simp, by simp [Value.ownBlock], [], World.ownsRow_nil _ _ _ _, rfl, fun k h => by simp at h⟩, waitRow_nil _ _ _, waitRow_nil _ _ _, by simp, by simp, by simp, (Below.refl _ _).alloc (Nat.le_refl _) _, fun k hk => by simp; omega⟩
end Go.Proofs.Ytbmohenjphmlgaa.FlT

/- The walk of Sum (of the document's own answer). -/
namespace Go.Proofs.Ytbmohenjphmlgaa
open Go.RowKit
set_option maxRecDepth 100000

set_option maxHeartbeats 1600000 in
theorem sumR_any (s : ByteArray) (w : World) (hs : s.size ≤ 1000000000) : Calls Try.prog 56 #[.string s] w fun e w' => e = .returned (.string ⟨(Tr.sum s.data.toList).toArray⟩) ∧ Below w.heap.size w w' := by
  go_enter Try.func56, Try.ntmps56
  go_wp2_with fail
  go_loopw [3, 4] (fun h i wr => ∃ k : Nat, h = .int .u64 (Tr.fnv (s.data.toList.take k)) ∧ i = .int .i64 k ∧ k ≤ s.size ∧ wr = w) (fun _ i _ => s.size - (intOf i).toNat)
  case atStart => exact ⟨0, by rw [List.take_zero, Tr.fnv_nil]; simp, rfl, Nat.zero_le _, rfl⟩
  case round =>
    obtain ⟨k, rfl, rfl, hk, rfl⟩ := hrel
    by_cases hlt : k < s.size
    · have i1 : (0 : Int) ≤ (k : Int) := by omega
      have i2 : (k : Int) < (s.size : Int) := by omega
      have HF := hid (step_val (Tr.fnv (s.data.toList.take k)) s[k] (Tr.fnv_lt _))
      have HS := hid (fnv_snoc s k hlt)
      go_wp2_with fail
      exact ⟨⟨k + 1, by rw [HF.out, HS.out], by go_num, by omega, trivial⟩, by simp [intOf]; omega⟩
    · have i2 : ¬ (k : Int) < (s.size : Int) := by omega
      have HK : Hid (Tr.fnv (s.data.toList.take k) = Tr.fnv s.data.toList) := by rw [Hid, List.take_of_length_le (by rw [ba_len]; omega)]
      rw [HK.out]
      have HLT := hid (Tr.fnv_lt s.data.toList)
      have HSE := hid (Tr.sum_eq s.data.toList)
      generalize Tr.fnv s.data.toList = n at *
      clear HK hlt hk
      go_wp2_with fail
      go_loopw [5, 6] (fun b i wx => ∃ m : Nat, i = .int .i64 (7 - (m : Int)) ∧ m ≤ 8 ∧ Hid (Bown wx wr.heap.size b ((List.range m).map (Tr.sumAt n)) ∧ Below wr.heap.size wr wx)) (fun _ i _ => (1 + intOf i).toNat)
      case atStart => exact ⟨0, rfl, by omega, bown_nil _ _, Below.refl _ _⟩
      case round =>
        obtain ⟨m, rfl, hm, HH⟩ := hrel
        obtain ⟨ab, cb, hv⟩ := bown_shape HH.out.1
        rw [show ((List.range m).map (Tr.sumAt n)).length = m by simp] at hv
        subst hv
        by_cases hlt2 : m < 8
        · have j1 : (0 : Int) ≤ 7 - (m : Int) := by omega
          have HZ : Hid (#[Value.int .u8 (bits .and .u64 ((n : Int) / 2 ^ (8 * (7 - m))) 255 % 256)].toList = Lib.byteCells [Tr.sumAt n m]) := by
            rw [Hid]
            simp only [Lib.byteCells, List.map_cons, List.map_nil]
            rw [sum_byte n m HLT.out]
          have HM : Hid ((List.range m).map (Tr.sumAt n) ++ [Tr.sumAt n m] = (List.range (m + 1)).map (Tr.sumAt n)) := by rw [Hid, List.range_succ, List.map_append]; rfl
          have HLN : Hid (((List.range m).map (Tr.sumAt n)).length + 1 ≤ 1000000000) := by rw [Hid]; simp; omega
          go_wp2_with (at_builtin; refine wpList_push_bytes rfl (.tmp 24) (.tmp 31) rfl [Tr.sumAt n m] wr.heap.size rfl rfl rfl HH.out.1 HH.out.2 (Nat.le_refl _) HZ.out HLN.out ?_; intro v' w' ho' hb'; have HO' := hid ho'; have HB' := hid hb'; clear ho' hb')
          exact ⟨⟨m + 1, by go_num, by omega, by rw [← HM.out]; exact HO'.out, HB'.out⟩, by simp [intOf]; omega⟩
        · have j1 : ¬ (0 : Int) ≤ 7 - (m : Int) := by omega
          obtain rfl : m = 8 := by omega
          have hcv := run_bytes_string (brd_of_bown HH.out.1)
          go_wp2_with fail
          go_ret
          exact ⟨by rw [HSE.out]; rfl, HH.out.2⟩
end Go.Proofs.Ytbmohenjphmlgaa

/- The walks of isEmpty, isBranch, isValue, isSum (of the document's own answer). -/
namespace Go.Proofs.Ytbmohenjphmlgaa
open Go.RowKit
set_option maxRecDepth 100000

theorem isEmpty_any (t : Itm) (w : World) (a : Option Addr) (cap : Nat) :
    Calls Try.prog 83 #[.agg #[.bool t.list, .string ⟨t.bytes.toArray⟩, .slice a t.items.length cap]] w fun e w' => e = .returned (.bool (Tr.isEmpty t)) ∧ Below w.heap.size w w' := by
  obtain ⟨lb, b, l⟩ := t
  cases lb
  · go_enter Try.func83, Try.ntmps83
    go_wp2_with fail
    go_ret
    exact ⟨by simp [Tr.isEmpty], (Below.refl _ _).alloc (Nat.le_refl _) _⟩
  · go_enter Try.func83, Try.ntmps83
    go_wp2_with fail
    go_ret
    exact ⟨by simp [Tr.isEmpty], (Below.refl _ _).alloc (Nat.le_refl _) _⟩

theorem isBranch_any (t : Itm) (w : World) (a : Option Addr) (cap : Nat) :
    Calls Try.prog 82 #[.agg #[.bool t.list, .string ⟨t.bytes.toArray⟩, .slice a t.items.length cap]] w fun e w' => e = .returned (.bool (Tr.isBranch t)) ∧ Below w.heap.size w w' := by
  obtain ⟨lb, b, l⟩ := t
  cases lb
  · go_enter Try.func82, Try.ntmps82
    go_wp2_with fail
    go_ret
    exact ⟨by simp [Tr.isBranch], (Below.refl _ _).alloc (Nat.le_refl _) _⟩
  · by_cases h : l.length = 17
    · have hb : ((l.length : Int) == 17) = true := by simp; omega
      go_enter Try.func82, Try.ntmps82
      go_wp2_with fail
      go_ret
      exact ⟨by simp [Tr.isBranch, h], (Below.refl _ _).alloc (Nat.le_refl _) _⟩
    · have hb : ((l.length : Int) == 17) = false := by simp; omega
      go_enter Try.func82, Try.ntmps82
      go_wp2_with fail
      go_ret
      exact ⟨by simp [Tr.isBranch, h], (Below.refl _ _).alloc (Nat.le_refl _) _⟩

theorem isValue_any (t : Itm) (w : World) (a : Option Addr) (cap : Nat) :
    Calls Try.prog 106 #[.agg #[.bool t.list, .string ⟨t.bytes.toArray⟩, .slice a t.items.length cap]] w fun e w' => e = .returned (.bool (Tr.isValue t)) ∧ Below w.heap.size w w' := by
  obtain ⟨lb, b, l⟩ := t
  cases lb
  · by_cases h : 1 ≤ b.length
    · by_cases h2 : b.length ≤ 40
      · have hb : (1 : Int) ≤ (b.length : Int) := by omega
        have hb2 : (b.length : Int) ≤ 40 := by omega
        go_enter Try.func106, Try.ntmps106
        go_wp2_with fail
        go_ret
        exact ⟨by simp [Tr.isValue, h, h2], (Below.refl _ _).alloc (Nat.le_refl _) _⟩
      · have hb : (1 : Int) ≤ (b.length : Int) := by omega
        have hb2 : ¬ (b.length : Int) ≤ 40 := by omega
        go_enter Try.func106, Try.ntmps106
        go_wp2_with fail
        go_ret
        exact ⟨by simp [Tr.isValue, h, h2], (Below.refl _ _).alloc (Nat.le_refl _) _⟩
    · have hb : ¬ (1 : Int) ≤ (b.length : Int) := by omega
      go_enter Try.func106, Try.ntmps106
      go_wp2_with fail
      go_ret
      exact ⟨by simp [Tr.isValue, h], (Below.refl _ _).alloc (Nat.le_refl _) _⟩
  · go_enter Try.func106, Try.ntmps106
    go_wp2_with fail
    go_ret
    exact ⟨by simp [Tr.isValue], (Below.refl _ _).alloc (Nat.le_refl _) _⟩

theorem isSum_any (t : Itm) (w : World) (a : Option Addr) (cap : Nat) :
    Calls Try.prog 107 #[.agg #[.bool t.list, .string ⟨t.bytes.toArray⟩, .slice a t.items.length cap]] w fun e w' => e = .returned (.bool (Tr.isSum t)) ∧ Below w.heap.size w w' := by
  obtain ⟨lb, b, l⟩ := t
  cases lb
  · by_cases h : b.length = 8
    · have hb : ((b.length : Int) == 8) = true := by simp; omega
      go_enter Try.func107, Try.ntmps107
      go_wp2_with fail
      go_ret
      exact ⟨by simp [Tr.isSum, h], (Below.refl _ _).alloc (Nat.le_refl _) _⟩
    · have hb : ((b.length : Int) == 8) = false := by simp; omega
      go_enter Try.func107, Try.ntmps107
      go_wp2_with fail
      go_ret
      exact ⟨by simp [Tr.isSum, h], (Below.refl _ _).alloc (Nat.le_refl _) _⟩
  · go_enter Try.func107, Try.ntmps107
    go_wp2_with fail
    go_ret
    exact ⟨by simp [Tr.isSum], (Below.refl _ _).alloc (Nat.le_refl _) _⟩
end Go.Proofs.Ytbmohenjphmlgaa

/- The walk of digits (of the document's own answer). -/
namespace Go.Proofs.Ytbmohenjphmlgaa
open Go.RowKit
set_option maxRecDepth 100000

set_option maxHeartbeats 1600000 in
theorem digits_any (s : ByteArray) (w : World) (hs : s.size ≤ 100000000) : Calls Try.prog 58 #[.string s] w fun e w' => ∃ a cap, e = .returned (.slice a (Tr.digits s.data.toList).length cap) ∧ Bown w' w.heap.size (.slice a (Tr.digits s.data.toList).length cap) (Tr.digits s.data.toList) ∧ Below w.heap.size w w' := by
  go_enter Try.func58, Try.ntmps58
  go_wp2_with fail
  go_loopw [3, 4] (fun l i wr => ∃ k : Nat, i = .int .i64 k ∧ k ≤ s.size ∧ Hid (Bown wr w.heap.size l (Tr.digits (s.data.toList.take k)) ∧ Below w.heap.size w wr)) (fun _ i _ => s.size - (intOf i).toNat)
  case atStart => exact ⟨0, rfl, Nat.zero_le _, bown_nil _ _, Below.refl _ _⟩
  case round =>
    obtain ⟨k, rfl, hk, HH⟩ := hrel
    obtain ⟨ab, cb, hv⟩ := bown_shape HH.out.1
    by_cases hlt : k < s.size
    · subst hv
      have i1 : (0 : Int) ≤ (k : Int) := by omega
      have i2 : (k : Int) < (s.size : Int) := by omega
      have HD : Hid (Tr.digits (s.data.toList.take (k + 1)) = Tr.digits (s.data.toList.take k) ++ [UInt8.ofNat (s[k].toNat / 16), UInt8.ofNat (s[k].toNat % 16)]) := by
        rw [Hid, take_snoc s k hlt, Tr.digits_append]; rfl
      have HLN : Hid ((Tr.digits (s.data.toList.take k)).length + 2 ≤ 1000000000) := by
        rw [Hid, Tr.digits_len, List.length_take]; omega
      have HZ := hid (digit_cells s[k])
      have HH1 := hid HH.out.1
      have HH2 := hid HH.out.2
      generalize Tr.digits (s.data.toList.take k) = dk at *
      go_wp2_with fail
      go_region_held3 (fun _ => True) (trivial) ((refine step_push_bytes rfl (.tmp 11) (.tmp 20) rfl [UInt8.ofNat (s[k].toNat / 16), UInt8.ofNat (s[k].toNat % 16)] _ rfl rfl rfl HH1.out (HH2.out.drew) (Nat.le_refl _) HZ.out HLN.out ?_; intro v' w' ho' hb'; have HO' := hid ho'; have HB' := hid hb'; clear ho' hb'))
      all_goals
        go_wp2_with fail
        exact ⟨⟨k + 1, by go_num, by omega, by rw [HD.out]; exact HO'.out, HB'.out⟩, by simp [intOf]; omega⟩
    · have i2 : ¬ (k : Int) < (s.size : Int) := by omega
      have hke : k = s.size := by omega
      have HK : Hid (Tr.digits (s.data.toList.take k) = Tr.digits s.data.toList) := by rw [Hid, List.take_of_length_le (by rw [ba_len]; omega)]
      rw [HK.out] at hv
      subst hv
      go_wp2_with fail
      go_ret
      refine ⟨ab, cb, rfl, ?_, HH.out.2⟩
      have h := HH.out.1
      rw [HK.out] at h
      exact h
end Go.Proofs.Ytbmohenjphmlgaa

/- The walk of unpath (of the document's own answer). -/
namespace Go.Proofs.Ytbmohenjphmlgaa
open Go.RowKit
set_option maxRecDepth 100000

/-- What unpath answers. -/
def UnPost (t : Itm) (w : World) (e : Ending) (w' : World) : Prop :=
  (Tr.unpath t = none → e = .returned (.tuple #[.slice none 0 0, .bool false, .bool false])) ∧
  (∀ p leaf, Tr.unpath t = some (p, leaf) → ∃ a cap, e = .returned (.tuple #[.slice a p.length cap, .bool leaf, .bool true]) ∧ Bown w' w.heap.size (.slice a p.length cap) p) ∧ Below w.heap.size w w'

theorem unPost_none {t : Itm} {w w' : World} (h : Tr.unpath t = none) (hb : Below w.heap.size w w') : UnPost t w (.returned (.tuple #[.slice none 0 0, .bool false, .bool false])) w' :=
  ⟨fun _ => rfl, fun p leaf hp => (by rw [h] at hp; cases hp), hb⟩

theorem unPost_some {t : Itm} {w w' : World} {p : List UInt8} {leaf : Bool} {a : Option Addr} {cap : Nat} (h : Tr.unpath t = some (p, leaf)) (ho : Bown w' w.heap.size (.slice a p.length cap) p) (hb : Below w.heap.size w w') :
    UnPost t w (.returned (.tuple #[.slice a p.length cap, .bool leaf, .bool true])) w' :=
  ⟨fun hn => (by rw [h] at hn; cases hn), fun p' leaf' hp => (by rw [h] at hp; cases hp; exact ⟨a, cap, rfl, ho⟩), hb⟩

section
variable (s : ByteArray) (w : World) (l : List Itm) (a : Option Addr) (cap : Nat)

theorem unpath_list : Calls Try.prog 85 #[.agg #[.bool true, .string s, .slice a l.length cap]] w (UnPost ⟨true, s.data.toList, l⟩ w) := by
  have HU : Hid (Tr.unpath ⟨true, s.data.toList, l⟩ = none) := by rw [Hid]; simp [Tr.unpath]
  go_enter Try.func85, Try.ntmps85
  go_wp2_with fail
  refine bodyPost_ret (v := .tuple #[.slice none 0 0, .bool false, .bool false]) (by simp [results, Try.results85, go_sem]) rfl ?_
  exact unPost_none HU.out ((Below.refl _ _).alloc (Nat.le_refl _) _)

theorem unpath_empty (h0 : s.size = 0) : Calls Try.prog 85 #[.agg #[.bool false, .string s, .slice a l.length cap]] w (UnPost ⟨false, s.data.toList, l⟩ w) := by
  have hs : s = ⟨#[]⟩ := by apply ByteArray.ext; exact Array.eq_empty_of_size_eq_zero h0
  subst hs
  have HU : Hid (Tr.unpath ⟨false, [], l⟩ = none) := by rw [Hid]; simp [Tr.unpath]
  go_enter Try.func85, Try.ntmps85
  go_wp2_with fail
  refine bodyPost_ret (v := .tuple #[.slice none 0 0, .bool false, .bool false]) (by simp [results, Try.results85, go_sem]) rfl ?_
  exact unPost_none HU.out ((Below.refl _ _).alloc (Nat.le_refl _) _)

theorem unpath_high (h1 : 0 < s.size) (hb : s.toList.isEmpty = false) (hc : 64 ≤ s[0].toNat) : Calls Try.prog 85 #[.agg #[.bool false, .string s, .slice a l.length cap]] w (UnPost ⟨false, s.data.toList, l⟩ w) := by
  have HU : Hid (Tr.unpath ⟨false, s.data.toList, l⟩ = none) := by
    rw [Hid]
    unfold Tr.unpath
    simp only [ba_getD s h1]
    simp [hc]
  have hc' : (64 : Int) ≤ (s[0].toNat : Int) := by omega
  go_enter Try.func85, Try.ntmps85
  go_wp2_with fail
  refine bodyPost_ret (v := .tuple #[.slice none 0 0, .bool false, .bool false]) (by simp [results, Try.results85, go_sem]) rfl ?_
  exact unPost_none HU.out ((Below.refl _ _).alloc (Nat.le_refl _) _)

theorem unpath_bad (h1 : 0 < s.size) (hb : s.toList.isEmpty = false) (hc : s[0].toNat < 64) (ho : s[0].toNat / 16 % 2 ≠ 1) (hm : s[0].toNat % 16 ≠ 0) : Calls Try.prog 85 #[.agg #[.bool false, .string s, .slice a l.length cap]] w (UnPost ⟨false, s.data.toList, l⟩ w) := by
  have HU : Hid (Tr.unpath ⟨false, s.data.toList, l⟩ = none) := by
    rw [Hid]
    unfold Tr.unpath
    simp only [ba_getD s h1]
    simp [ho, hm]
  have hc' : ¬ (64 : Int) ≤ (s[0].toNat : Int) := by omega
  have ho' : ((s[0].toNat : Int) / 16 % 2 == 1) = false := by simp; omega
  have hm' : ((s[0].toNat : Int) % 16 == 0) = false := by simp; omega
  clear ho hm
  go_enter Try.func85, Try.ntmps85
  go_wp2_with fail
  refine bodyPost_ret (v := .tuple #[.slice none 0 0, .bool false, .bool false]) (by simp [results, Try.results85, go_sem]) rfl ?_
  exact unPost_none HU.out ((Below.refl _ _).alloc (Nat.le_refl _) _)

/-- The digits behind the first byte. -/
theorem tail_digits (h2 : s.size ≤ 100000000) : Calls Try.prog 58 #[.string (s.extract 1 s.size)] w fun e w' => ∃ a cap, e = .returned (.slice a (Tr.digits (s.data.toList.drop 1)).length cap) ∧ Bown w' w.heap.size (.slice a (Tr.digits (s.data.toList.drop 1)).length cap) (Tr.digits (s.data.toList.drop 1)) ∧ Below w.heap.size w w' := by
  have := digits_any (s.extract 1 s.size) w (by simp; omega)
  rwa [ext_one] at this

set_option maxHeartbeats 1600000 in
theorem unpath_even (h1 : 0 < s.size) (h2 : s.size ≤ 100000000) (hb : s.toList.isEmpty = false) (hc : s[0].toNat < 64) (ho : s[0].toNat / 16 % 2 ≠ 1) (hm : s[0].toNat % 16 = 0) : Calls Try.prog 85 #[.agg #[.bool false, .string s, .slice a l.length cap]] w (UnPost ⟨false, s.data.toList, l⟩ w) := by
  have HU : Hid (Tr.unpath ⟨false, s.data.toList, l⟩ = some (Tr.digits (s.data.toList.drop 1), decide ((32 : Int) ≤ (s[0].toNat : Int)))) := by
    rw [Hid]
    unfold Tr.unpath
    simp only [ba_getD s h1]
    have e1 : s.data.toList.isEmpty = false := by rw [← Lib.toList_data]; exact hb
    simp [ho, hm, e1, hc]
    omega
  have HT := hid (fun w => tail_digits s w h2)
  have HLN : Hid (([] : List UInt8).length + (Tr.digits (s.data.toList.drop 1)).length ≤ 1000000000) := by rw [Hid, Tr.digits_len]; simp; omega
  have hc' : ¬ (64 : Int) ≤ (s[0].toNat : Int) := by omega
  have ho' : ((s[0].toNat : Int) / 16 % 2 == 1) = false := by simp; omega
  have hm' : ((s[0].toNat : Int) % 16 == 0) = true := by simp; omega
  have i1 : (1 : Int) ≤ (s.size : Int) := by omega
  clear ho hm
  generalize Tr.digits (s.data.toList.drop 1) = D at *
  go_enter Try.func85, Try.ntmps85
  go_wp2_with fail
  refine (HT.out _).mono ?_
  rintro e w1 ⟨a1, cap1, rfl, hD, hbel⟩
  have HD := hid hD
  have HB := hid (below_of_box hbel)
  have HBS : Hid (w.heap.size ≤ w1.heap.size) := HB.out.size
  clear hD hbel
  go_wp2_with (at_builtin; refine wpList_append_bytes _ rfl (.tmp 45) (.tmp 48) rfl w.heap.size _ (.slice none 0 0) _ [] D rfl rfl (bown_nil _ _) (brd_of_bown HD.out) HLN.out HBS.out ?_; intro v' w' ho' hg' hn'; obtain ⟨a2, cap2, rfl⟩ := bown_shape ho'; have HO' := hid ho'; have HG' := hid hg'; clear ho' hg' hn')
  refine bodyPost_ret (v := .tuple #[.slice a2 ([] ++ D).length cap2, .bool (decide ((32 : Int) ≤ (s[0].toNat : Int))), .bool true]) (by simp [results, Try.results85, go_sem]) rfl ?_
  exact unPost_some HU.out HO'.out (HB.out.grown HG'.out HBS.out (fun g hg => by simp [Value.ownBlock] at hg))

theorem odd_cell (c : UInt8) : #[Value.int .u8 ((c.toNat : Int) % 16)].toList = Lib.byteCells [UInt8.ofNat (c.toNat % 16)] := by
  simp only [Lib.byteCells, List.map_cons, List.map_nil]
  have e2 : (UInt8.ofNat (c.toNat % 16)).toNat = c.toNat % 16 := by simp; omega
  rw [e2]
  rfl

set_option maxHeartbeats 1600000 in
theorem unpath_odd (h1 : 0 < s.size) (h2 : s.size ≤ 100000000) (hb : s.toList.isEmpty = false) (hc : s[0].toNat < 64) (ho : s[0].toNat / 16 % 2 = 1) : Calls Try.prog 85 #[.agg #[.bool false, .string s, .slice a l.length cap]] w (UnPost ⟨false, s.data.toList, l⟩ w) := by
  have HU : Hid (Tr.unpath ⟨false, s.data.toList, l⟩ = some ([] ++ [UInt8.ofNat (s[0].toNat % 16)] ++ Tr.digits (s.data.toList.drop 1), decide ((32 : Int) ≤ (s[0].toNat : Int)))) := by
    rw [Hid]
    unfold Tr.unpath
    simp only [ba_getD s h1]
    have e1 : s.data.toList.isEmpty = false := by rw [← Lib.toList_data]; exact hb
    simp [ho, e1, hc]
    omega
  have HT := hid (fun w => tail_digits s w h2)
  have HLN : Hid (([] ++ [UInt8.ofNat (s[0].toNat % 16)]).length + (Tr.digits (s.data.toList.drop 1)).length ≤ 1000000000) := by rw [Hid, Tr.digits_len]; simp; omega
  have HLN1 : Hid (([] : List UInt8).length + 1 ≤ 1000000000) := by rw [Hid]; simp
  have HZ := hid (odd_cell s[0])
  have HL0 : Hid ((w.alloc (.cells #[.bool false, .string s, .slice a l.length cap] 24)).heap.size = w.heap.size + 1) := by rw [Hid]; simp
  have hc' : ¬ (64 : Int) ≤ (s[0].toNat : Int) := by omega
  have ho' : ((s[0].toNat : Int) / 16 % 2 == 1) = true := by simp; omega
  have i1 : (1 : Int) ≤ (s.size : Int) := by omega
  have HA := hid ((Below.refl w.heap.size w).alloc (Nat.le_refl _) (.cells #[.bool false, .string s, .slice a l.length cap] 24))
  clear ho
  generalize Tr.digits (s.data.toList.drop 1) = D at *
  go_enter Try.func85, Try.ntmps85
  go_wp2_with (at_builtin; refine wpList_push_bytes rfl (.tmp 39) (.tmp 43) rfl [UInt8.ofNat (s[0].toNat % 16)] (w.heap.size + 1) HL0.out rfl rfl (bown_nil _ _) HA.out (Nat.le_refl _) HZ.out HLN1.out ?_; intro v1 w0 ho1 hb1; obtain ⟨a0, cap0, rfl⟩ := bown_shape ho1; have HO1 := hid ho1; have HB1 := hid hb1; clear ho1 hb1)
  refine (HT.out _).mono ?_
  rintro e w1 ⟨a1, cap1, rfl, hD, hbel⟩
  have HD := hid hD
  have HB := hid (HB1.out.trans (hbel.mono HB1.out.size))
  have HO2 := hid (bown_frame HO1.out (fun g hg => hbel.block g (bown_lt HO1.out g hg).2))
  have HBS : Hid (w.heap.size ≤ w1.heap.size) := HB.out.size
  clear hD hbel
  go_wp2_with (at_builtin; refine wpList_append_bytes _ rfl (.tmp 45) (.tmp 48) rfl w.heap.size _ _ _ _ D rfl rfl HO2.out (brd_of_bown HD.out) HLN.out HBS.out ?_; intro v' w' ho' hg' hn'; obtain ⟨a2, cap2, rfl⟩ := bown_shape ho'; have HO' := hid ho'; have HG' := hid hg'; clear ho' hg' hn')
  refine bodyPost_ret (v := .tuple #[.slice a2 ([] ++ [UInt8.ofNat (s[0].toNat % 16)] ++ D).length cap2, .bool (decide ((32 : Int) ≤ (s[0].toNat : Int))), .bool true]) (by simp [results, Try.results85, go_sem]) rfl ?_
  exact unPost_some HU.out HO'.out (HB.out.grown HG'.out HBS.out (fun g hg => (bown_lt HO2.out g hg).1))

end

theorem unpath_any (t : Itm) (w : World) (a : Option Addr) (cap : Nat) (hs : t.bytes.length ≤ 100000000) :
    Calls Try.prog 85 #[.agg #[.bool t.list, .string ⟨t.bytes.toArray⟩, .slice a t.items.length cap]] w (UnPost t w) := by
  obtain ⟨lb, b, l⟩ := t
  have e : (⟨b.toArray⟩ : ByteArray).data.toList = b := rfl
  cases lb with
  | true => exact unpath_list ⟨b.toArray⟩ w l a cap
  | false =>
    have hsz : (⟨b.toArray⟩ : ByteArray).size ≤ 100000000 := hs
    by_cases h0 : (⟨b.toArray⟩ : ByteArray).size = 0
    · exact unpath_empty ⟨b.toArray⟩ w l a cap h0
    · have h1 : 0 < (⟨b.toArray⟩ : ByteArray).size := by omega
      have hb : (⟨b.toArray⟩ : ByteArray).toList.isEmpty = false := by
        rw [Lib.toList_data, e]
        have h2 : 0 < b.length := h1
        cases b with
        | nil => simp at h2
        | cons x r => rfl
      by_cases hc : 64 ≤ ((⟨b.toArray⟩ : ByteArray)[0]).toNat
      · exact unpath_high ⟨b.toArray⟩ w l a cap h1 hb hc
      · by_cases ho : ((⟨b.toArray⟩ : ByteArray)[0]).toNat / 16 % 2 = 1
        · exact unpath_odd ⟨b.toArray⟩ w l a cap h1 hsz hb (by omega) ho
        · by_cases hm : ((⟨b.toArray⟩ : ByteArray)[0]).toNat % 16 = 0
          · exact unpath_even ⟨b.toArray⟩ w l a cap h1 hsz hb (by omega) ho hm
          · exact unpath_bad ⟨b.toArray⟩ w l a cap h1 hb (by omega) ho hm
end Go.Proofs.Ytbmohenjphmlgaa
