/- The walk of the statement Decodes: of whatever texts it returns true, and of what was there nothing has turned. -/
import Derived.Test.YtplfjengfhijhaaDec0
namespace Go.Proofs.Ytplfjengfhijhaa
open Go.RowKit

set_option maxRecDepth 100000 in
set_option maxHeartbeats 3200000 in
theorem decodes_any (W : World) (a : Option Addr) (cap : Nat) (ss : List ByteArray) (hr : StrRow W a ss) (hn : ss.length ≤ 2000000) :
    Calls Try.prog 4 #[.slice a ss.length cap] W fun e w' => e = .returned (.bool true) ∧ Below W.heap.size W w' := by
  have HR := hid hr
  have HN := hid hn
  clear hr
  go_enter Try.func4, Try.ntmps4
  go_wp2_with fail
  go_loopw [4] (fun i wr => ∃ (j : Nat) (c : Nat → Nat) (it wi we : Value) (Q : Nat) (lw : List Itm), i = .int .i64 j ∧ j ≤ ss.length ∧ Hid (RoundSt W W.heap.size j wr c it wi we Q lw)) (fun i _ => ss.length - (intOf i).toNat)
  case atStart => exact ⟨0, _, _, _, _, _, _, rfl, Nat.zero_le _, round_start W⟩
  case round =>
    obtain ⟨j, c, it, wi, we, Q, lw, rfl, hj, HS⟩ := hrel
    by_cases hlt : j < ss.length
    · obtain ⟨b, off, rfl, hb, hcell⟩ := HR.out j hlt
      have hx1 := (HS.out.old.cell (p := ⟨b, off + j, none⟩) hb).trans hcell
      have i1 : (0 : Int) ≤ (j : Int) := by omega
      have i2 : (j : Int) < (ss.length : Int) := by omega
      generalize ss[j] = s at hcell hx1
      obtain ⟨t, n, hc, hd, hdr⟩ := decode_both s
      have HC := hid hc
      have HD := hid hd
      have HDR := hid hdr
      have hbr : b < wr.heap.size := Nat.lt_of_lt_of_le hb HS.out.old.size
      clear hcell hc hd hdr
      go_wp2_with fail
      refine (HD.out _).mono ?_
      rintro e w1 ⟨ax, axc, rfl, ox, b1⟩
      have O1 := hid ox
      have B1 := hid b1
      have hb1 : b < w1.heap.size := Nat.lt_of_lt_of_le hbr b1.size
      have y1 := (b1.cell (p := ⟨b, off + j, none⟩) hbr).trans hx1
      clear ox b1
      go_wp2_with fail
      refine (HD.out _).mono ?_
      rintro e w2 ⟨az, azc, rfl, oz, b2⟩
      have O2 := hid oz
      have B2 := hid b2
      have BR2 := hid (below_on (below_box B1.out _) b2)
      have hb2 : b < w2.heap.size := Nat.lt_of_lt_of_le hbr BR2.out.size
      have y2 := (BR2.out.cell (p := ⟨b, off + j, none⟩) hbr).trans hx1
      clear oz b2 y1
      go_wp2_with fail
      refine (HDR.out _).mono ?_
      rintro e w3 ⟨ay, ayc, rfl, oy, b3⟩
      have O3 := hid oy
      have B3 := hid b3
      obtain ⟨z0, z1, z2, hZ3⟩ := box_kept b3
      obtain ⟨x0, x1, x2, hX3⟩ := box_kept (below_on (below_box B2.out _) b3)
      clear oy b3 y2
      go_wp2_with fail
      have BX2 := hid (below_on ((Below.refl w1.heap.size w1).alloc (Nat.le_refl _) _) B2.out)
      have BX3 := hid (below_box (below_on (below_box BX2.out _) B3.out) (.cells #[.bool t.list, .string ⟨t.bytes.toArray⟩, .slice ay t.items.length ayc] 24))
      have BZ3 := hid (below_box (below_on ((Below.refl w2.heap.size w2).alloc (Nat.le_refl _) _) B3.out) (.cells #[.bool t.list, .string ⟨t.bytes.toArray⟩, .slice ay t.items.length ayc] 24))
      have BY3 := hid ((Below.refl w3.heap.size w3).alloc (Nat.le_refl _) (.cells #[.bool t.list, .string ⟨t.bytes.toArray⟩, .slice ay t.items.length ayc] 24))
      have RX := hid (rep_in (rep_of_own _ _ _ _ _ (Nat.le_refl _) O1.out) BX3.out)
      have RZ := hid (rep_in (rep_of_own _ _ _ _ _ (Nat.le_refl _) O2.out) BZ3.out)
      have RY := hid (rep_in (rep_of_own _ _ _ _ _ (Nat.le_refl _) O3.out) BY3.out)
      refine (sameL_two 1001 1001 _ _ t _ RX.out RY.out).mono ?_
      rintro e w4 ⟨rfl, b4⟩
      have B4 := hid b4
      obtain ⟨yy0, yy1, yy2, hY4⟩ := box_kept b4
      obtain ⟨zz0, zz1, zz2, hZ4⟩ := box_kept (below_on (below_box B3.out _) b4)
      clear b4 x0 x1 x2 hX3 z0 z1 z2 hZ3
      go_wp2_with fail
      refine (sameL_two 1001 1001 _ _ t _ (rep_in RZ.out B4.out) (rep_in RY.out B4.out)).mono ?_
      rintro e w5 ⟨rfl, b5⟩
      have B45 := hid (below_on B4.out b5)
      have BW5 := hid (below_on BZ3.out B45.out)
      obtain ⟨xx0, xx1, xx2, hX5⟩ := box_kept (below_on (below_box (below_on (below_box B2.out _) B3.out) _) B45.out)
      have HZ5 := hid (old_block (below_on (below_box B3.out _) B45.out))
      clear b5 yy0 yy1 yy2 hY4 zz0 zz1 zz2 hZ4
      have hlt5 : w2.heap.size < w5.heap.size := (Array.getElem?_eq_some_iff.1 HZ5.out).1
      have RM := hid (round_mid HS.out B1.out O1.out B2.out O2.out BW5.out hlt5)
      clear HS B1 O1 B2 O2 BW5 B45 B4 B3 BX2 BX3 BZ3 BY3 RX RZ RY O3 BR2
      go_wp2_with fail
      refine (RM.out.keepX HC.out).mono ?_
      rintro e w6 hk
      obtain ⟨rfl, hz6, c6, k4, hcall⟩ := RM.out.keepZ HC.out hk
      have HZ6 := hz6.trans HZ5.out
      have v0 := cell_of_row _ _ 0 _ _ _ HZ6
      have v1 := cell_of_row _ _ 1 _ _ _ HZ6
      have v2 := cell_of_row _ _ 2 _ _ _ HZ6
      have HK4 := hid k4
      have HCALL := hid hcall
      clear hk hz6 k4 hcall HZ6 xx0 xx1 xx2 hX5 HZ5
      go_wp2_with fail
      refine HCALL.out.mono ?_
      rintro e w7 hk2
      obtain ⟨rfl, hlook⟩ := RM.out.looks HC.out (by have := HN.out; omega) HK4.out hk2
      have HLK := hid hlook
      clear hk2 hlook HCALL v0 v1 v2
      go_wp2_with fail
      refine HLK.out.mono ?_
      rintro e w8 ⟨rfl, c8, it8, wi8, we8, Q8, l8, hR⟩
      have HR8 := hid hR
      clear hR HLK RM HK4
      have HNUM := hid (fun w => num_any (n : Int) w)
      go_wp2_with fail
      refine (HNUM.out _).mono ?_
      rintro e w9 ⟨rfl, rfl⟩
      go_wp2_with fail
      refine (HNUM.out _).mono ?_
      rintro e w10 ⟨rfl, rfl⟩
      go_wp2_with fail
      exact ⟨⟨j + 1, c8, it8, wi8, we8, Q8, l8, by go_num, by omega, HR8.out⟩, by simp [intOf]; omega⟩
    · have hlt' : ¬ (j : Int) < (ss.length : Int) := by omega
      have HE := hid (HS.out.ends (by have := HN.out; omega))
      clear HS
      go_wp2_with fail
      refine HE.out.mono ?_
      rintro e w' ⟨rfl, hbel⟩
      go_wp2_with fail
      go_ret
      exact ⟨rfl, hbel⟩
end Go.Proofs.Ytplfjengfhijhaa
