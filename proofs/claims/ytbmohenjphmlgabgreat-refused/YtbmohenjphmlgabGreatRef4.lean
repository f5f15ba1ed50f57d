/- The walk of the statement Refused. -/
import Derived.Test.YtbmohenjphmlgabGreatRef3
import Derived.Laws.StructEq
namespace Go.Proofs.YtbmohenjphmlgabGreat
open Go.RowKit
set_option maxRecDepth 100000

theorem turns_below2 {w w' : World} {k2 : Nat} (h : Turns (fun k => k = k2) w w') (h2 : w'.heap[k2]? = w.heap[k2]?) : Below w.heap.size w w' :=
  ⟨h.os, h.tape, h.output, h.size, fun k hk => by
    by_cases e : k = k2
    · subst e; exact h2
    · exact h.block k hk e⟩

theorem infoApiPair : (Tryz.prog.info? 27).map (fun i => (i.zero, i.size, i.bytes)) = some (some (.agg #[.string ⟨#[]⟩, .string ⟨#[]⟩]), 2, 32) := by kernel_rfl
theorem infoText : (Tryz.prog.info? 9).map (fun i => (i.zero, i.size, i.bytes)) = some (some (.string ⟨#[]⟩), 1, 16) := by kernel_rfl

theorem belowA1 {w a : World} (h : Below w.heap.size w a) (O : Obj) : Below w.heap.size w (a.alloc O) := h.alloc h.size O

theorem stepB {w a b : World} (h : Below w.heap.size w a) (h2 : Below a.heap.size a b) : Below w.heap.size w b := h.trans (h2.mono h.size)

theorem wpList_make_item {ops : Array Oper} {rest : List Oper} {o : Oper} {a : Act} {Q : Exit → Act → World → Prop} {w : World} (hg : o.guard = none) (hop : o.op = Op.makeSlice 48 (.const (.int .i64 1)) (.const (.int .i64 1)))
    (h : ∀ w1, w1.heap[w.heap.size]? = some (.cells #[.bool false, .string ⟨#[]⟩, .slice none 0 0] 50 (0, 0)) → Below w.heap.size w w1 → wpList Tryz.prog ops Q rest (a.put o.dst (.slice (some ⟨w.heap.size, 0, none⟩) 1 1)) w1) : wpList Tryz.prog ops Q (o :: rest) a w := by
  obtain ⟨i0, hi, hz0, hz1, hz2⟩ := info_parts (show (Tryz.prog.info? 50).map (fun i => (i.zero, i.size, i.bytes)) = some (some (.agg #[.bool false, .string ⟨#[]⟩, .slice none 0 0]), 3, 48) by kernel_rfl)
  refine wpList_make_full w hg _ _ 48 hop w.heap.size 50 i0 _ 3 Tryz.underlying48 hi hz0 hz1 .i64 .i64 1 1 1 rfl rfl rfl rfl (by rw [hz2]; decide) (by unfold maxLen; omega) (Nat.le_refl _) ?_
  intro w1 hrow hgr
  refine h w1 ?_ ⟨hgr.os, hgr.tape, hgr.output, hgr.size, fun k hk => hgr.block k hk (by simp)⟩
  rcases hrow.2 with ⟨hv, _⟩ | ⟨g, cap, cur, hv, _, hg', hn, hcm, hcs, htk⟩
  · simp at hv
  · simp only [Value.slice.injEq, Option.some.injEq, Addr.mk.injEq, and_true] at hv
    obtain ⟨rfl, _, rfl⟩ := hv
    rw [hg']
    have hlen : cur.toList.length = 3 := by simpa using hcs
    have : cur.toList = (madeCells (Value.agg #[.bool false, .string ⟨#[]⟩, .slice none 0 0]).cells (1 * 3)).toList := by
      rw [← htk, List.take_of_length_le (by omega)]
    have h2 : cur = #[.bool false, .string ⟨#[]⟩, .slice none 0 0] := by
      apply Array.toList_inj.1
      rw [this]
      have e3 : Array.range (1 * 3) = #[0, 1, 2] := by decide
      unfold madeCells
      rw [e3]
      simp [Value.cells]
    rw [h2]

theorem eq_head (w : World) (x : Int) (r : ByteArray) : (binOp .eql 58 (.agg #[.int .i64 x, .string r]) (.agg #[.int .i64 x, .string r])).run Tryz.prog w = .ok (.bool true) w := by
  have u3 := Tryz.underlying3
  have u9 := Tryz.underlying9
  have a3 := Tryz.isAgg3
  have z3 := Tryz.sizeOf3
  have a9 := Tryz.isAgg9
  have z9 := Tryz.sizeOf9
  have hS : Tryz.prog.underlying 58 = some (.struct (Tryz.prog.fieldsOf 58)) := by kernel_rfl
  have hp : Tryz.prog.stoodInHeld 58 = false := by kernel_rfl
  rw [run_eql_struct, show (10000 : Nat) = 9999 + 1 from rfl, run_equalIn_agg w 9999 58 _ _ hS hp]
  simp only [Program.fieldsOf, Tryz.underlying58]
  go_simp
set_option maxHeartbeats 12800000 in
theorem refused_any (n h : Int) (w : World) (h1 : -9223372036854775808 ≤ h) (h2 : h ≤ 9223372036854775807) : Calls Tryz.prog 4 #[.int .i64 n, .int .i64 h] w fun e w' => e = .returned (.bool true) ∧ Below w.heap.size w w' := by
  have HES := hid (fun g cap w h => encode_stray g cap w h)
  have HEB := hid (fun s w h => encode_bytes s w h)
  have HDB := hid (fun s w h => decode_big s w h)
  have HRM := hid (fun a n cap w h => root_many a n cap w h)
  have HRO := hid (fun g k v w h hk => root_one g k v w h hk)
  have HPK := hid (fun g k v key w h hk => prove_one_key g k v key w h hk)
  have HPV := hid (fun g k v key w h h1 h2 h3 => prove_one_value g k v key w h h1 h2 h3)
  have HV1 := hid (fun (root key : ByteArray) (v : Value) (w : World) h => verify_fault (N := 5) (by decide) (proofFault_root root key v w h))
  have HV2 := hid (fun (root key : ByteArray) (v : Value) (w : World) h1 h2 => verify_fault (N := 3) (by decide) (proofFault_key root key v w h1 h2))
  have HV3 := hid (fun (root key : ByteArray) a n cap (w : World) h1 h2 h3 => verify_fault (N := 2) (by decide) (proofFault_many root key a n cap w h1 h2 h3))
  have HV4 := hid (fun (root key : ByteArray) a cap (w : World) h1 h2 => @verify_nil root key a cap w h1 h2)
  have HOP := hid (fun w => open_any w)
  have HPI := hid (fun c n w h1 h2 h3 h4 => pick_any c n w h1 h2 h3 h4)
  have HOU := hid (fun c w => outside_any c w)
  have HH1 := hid h1
  have HH2 := hid h2
  clear h1 h2
  go_enter Tryz.func4, Tryz.ntmps4
  go_wp2_with (at_make; first | (refine wpList_make_text rfl 41 rfl (by decide) ?_; intro w1 long hs1 hc1 hb1; have HS1 := hid hs1; have HB1 := hid hb1; clear hs1 hb1) | (refine wpList_make_item rfl rfl ?_; intro w2 hi2 hb2; have HI2 := hid hi2; have HB2 : Hid (Below w.heap.size w w2) := stepB HB1.out hb2; clear hi2 hb2))
  clear hc1 HB1
  refine (HES.out _ _ _ HI2.out).mono ?_
  rintro e w3 ⟨rfl, b3⟩
  have HB3 : Hid (Below w.heap.size w w3) := stepB HB2.out b3
  clear b3 HB2 HI2
  go_wp2_with (at_make; refine wpList_make_text rfl 998 rfl (by decide) ?_; intro w4 s4 hs4 hc4 hb4; have HS4 := hid hs4; have HB4 : Hid (Below w.heap.size w w4) := stepB HB3.out hb4; clear hs4 hb4 HB3)
  clear hc4
  refine (HEB.out _ _ HS4.out).mono ?_
  rintro e w5 ⟨rfl, b5⟩
  have HB5 : Hid (Below w.heap.size w w5) := stepB HB4.out b5
  clear b5 HB4 HS4
  go_wp2_with (at_make; refine wpList_make_text rfl 1001 rfl (by decide) ?_; intro w6 s6 hs6 hc6 hb6; have HS6 := hid hs6; have HB6 : Hid (Below w.heap.size w w6) := stepB HB5.out hb6; clear hs6 hb6 HB5)
  clear hc6
  refine (HDB.out _ _ (by rw [HS6.out]; decide)).mono ?_
  rintro e w7 ⟨rfl, b7⟩
  have HB7 : Hid (Below w.heap.size w w7) := stepB HB6.out b7
  clear b7 HB6 HS6
  go_wp2_with (at_make; go_loud (refine wpList_make_row rfl 61 22 27 _ 2 32 rfl (by decide) Tryz.underlying22 infoApiPair (by decide) ?_); intro w8 hb8; have HB8 : Hid (Below w.heap.size w w8) := stepB (belowA1 HB7.out _) hb8; clear hb8)
  clear HB7
  refine (HRM.out _ _ _ _ (by decide)).mono ?_
  rintro e w9 ⟨rfl, b9⟩
  have HB9 : Hid (Below w.heap.size w w9) := stepB HB8.out b9
  clear b9 HB8
  go_wp2_with fail
  refine (HRO.out _ _ _ _ (heap_alloc_new w9 _) (by decide)).mono ?_
  rintro e w10 ⟨rfl, b10⟩
  have HB10 : Hid (Below w.heap.size w w10) := stepB (belowA1 HB9.out _) b10
  clear b10 HB9
  go_wp2_with fail
  refine (HPK.out _ _ _ _ _ (heap_alloc_new w10 _) (by decide)).mono ?_
  rintro e w11 ⟨rfl, b11⟩
  have HB11 : Hid (Below w.heap.size w w11) := stepB (belowA1 HB10.out _) b11
  clear b11 HB10
  go_wp2_with fail
  refine (HPV.out _ _ _ _ _ (heap_alloc_new w11 _) (by decide) (by decide) (by rw [HS1.out]; decide)).mono ?_
  rintro e w12 ⟨rfl, b12⟩
  have HB12 : Hid (Below w.heap.size w w12) := stepB (belowA1 HB11.out _) b12
  clear b12 HB11 HS1
  go_wp2_with (at_make; go_loud (refine wpList_make_row rfl 21 23 9 _ 1 16 rfl (by decide) Tryz.underlying23 infoText (by decide) ?_); intro w13 hb13; have HB13 : Hid (Below w.heap.size w w13) := stepB HB12.out hb13; clear hb13)
  clear HB12
  refine (HV1.out _ _ _ _ (by decide)).mono ?_
  rintro e w14 ⟨s14, f14, rfl, b14⟩
  have HB14 : Hid (Below w.heap.size w w14) := stepB HB13.out b14
  clear b14 HB13
  go_wp2_with (at_make; go_loud (refine wpList_make_row rfl 21 23 9 _ 1 16 rfl (by decide) Tryz.underlying23 infoText (by decide) ?_); intro w15 hb15; have HB15 : Hid (Below w.heap.size w w15) := stepB HB14.out hb15; clear hb15)
  clear HB14
  refine (HV2.out _ _ _ _ (by decide) (by decide)).mono ?_
  rintro e w16 ⟨s16, f16, rfl, b16⟩
  have HB16 : Hid (Below w.heap.size w w16) := stepB HB15.out b16
  clear b16 HB15
  go_wp2_with (at_make; go_loud (refine wpList_make_row rfl 21 23 9 _ 1 16 rfl (by decide) Tryz.underlying23 infoText (by decide) ?_); intro w17 hb17; have HB17 : Hid (Below w.heap.size w w17) := stepB HB16.out hb17; clear hb17)
  clear HB16
  refine (HV3.out _ _ _ _ _ _ (by decide) (by decide) (by decide)).mono ?_
  rintro e w18 ⟨s18, f18, rfl, b18⟩
  have HB18 : Hid (Below w.heap.size w w18) := stepB HB17.out b18
  clear b18 HB17
  go_wp2_with fail
  refine (HV4.out _ _ _ _ _ (by decide) (by decide)).mono ?_
  rintro e w19 ⟨s19, f19, rfl, b19⟩
  have HB19 : Hid (Below w.heap.size w w19) := stepB HB18.out b19
  clear b19 HB18
  go_wp2_with fail
  refine (HOP.out _).mono ?_
  rintro e w20 ⟨rfl, hop20⟩
  have HK20 := hid (kp_open hop20.out.1)
  have HB20 : Hid (Below w.heap.size w w20) := stepB HB19.out hop20.out.2
  have HSZ := hid HB19.out.size
  clear hop20 HB19
  generalize w19.heap.size = kz at *
  generalize hk0 : kz + 3 = k0 at *
  generalize hk1 : kz + 2 = k1 at *
  generalize hk2 : kz + 1 = k2 at *
  have HKN : Hid (w.heap.size ≤ k0 ∧ w.heap.size ≤ k1 ∧ w.heap.size ≤ k2) := by have := HSZ.out; rw [Hid]; omega
  clear hk0 hk1 hk2
  go_wp2_with fail
  refine (HPI.out _ _ _ (by decide) HH1.out HH2.out (by decide)).mono ?_
  rintro e w21 ⟨⟨m, rfl, m1, m2⟩, hw⟩
  obtain rfl := hw.symm
  clear hw
  go_wp2_with fail
  refine (HOU.out _ _).mono ?_
  rintro e w21 ⟨⟨q, rfl, hq⟩, hw⟩
  obtain rfl := hw.symm
  have HQ := hid hq
  clear hw hq
  go_wp2_with fail
  refine (trustO_height HK20.out q _ HQ.out).mono ?_
  rintro e w21 ⟨rfl, b21⟩
  have HK21 := hid (HK20.out.later b21)
  have HB21 : Hid (Below w.heap.size w w21) := stepB HB20.out b21
  clear b21 HK20 HB20 HQ
  go_wp2_with fail
  refine (trustO_root HK21.out m _ m1 (by omega) (by decide)).mono ?_
  rintro e w22 ⟨rfl, b22⟩
  have HK22 := hid (HK21.out.later b22)
  have HB22 : Hid (Below w.heap.size w w22) := stepB HB21.out b22
  clear b22 HK21 HB21
  go_wp2_with fail
  refine (trustO_new HK22.out m _ m1 (by omega) (by decide) (by decide) (by simp) (insert_nil _ _)).mono ?_
  rintro e w23 ⟨rfl, hn23⟩
  obtain ⟨hv, p, hp, _, _, k23, t23⟩ := kp_new HK22.out (by decide) hn23
  obtain rfl : p = 0 := by simpa using hp
  have HK23 : Hid (KP w23 kz k0 k1 k2 kz hv (.map #[] 0) [(m, ⟨#[49, 50, 51, 52, 53, 54, 55, 56]⟩)]) := k23
  have HB23 : Hid (Below w.heap.size w w23) := t23.below HB22.out (Nat.le_trans HSZ.out HK22.out.size) (fun k hk => by
    rcases hk with rfl | hk
    · exact HKN.out.2.1
    · simp [Value.ownBlock] at hk)
  clear hn23 k23 t23 hp HK22 HB22
  go_wp2_with fail
  refine (trustO_old HK23.out m _ _ m1 (by omega) (by decide) (List.mem_singleton.2 rfl)).mono ?_
  rintro e w24 ⟨rfl, b24⟩
  rw [if_neg (by decide)]
  have HK24 := hid (HK23.out.later b24)
  have HB24 : Hid (Below w.heap.size w w24) := stepB HB23.out b24
  clear b24 HK23 HB23
  go_wp2_with fail
  refine (trustO_old HK24.out m _ _ m1 (by omega) (by decide) (List.mem_singleton.2 rfl)).mono ?_
  rintro e w25 ⟨rfl, b25⟩
  rw [if_pos rfl]
  have HK25 := hid (HK24.out.later b25)
  have HB25 : Hid (Below w.heap.size w w25) := stepB HB24.out b25
  clear b25 HK24 HB24
  go_wp2_with fail
  refine (offerO_none HK25.out (m + 1) _ _ (fun q hq => by rw [List.mem_singleton.1 hq]; show m ≠ m + 1; omega)).mono ?_
  rintro e w26 ⟨rfl, b26⟩
  have HK26 := hid (HK25.out.later b26)
  have HB26 : Hid (Below w.heap.size w w26) := stepB HB25.out b26
  clear b26 HK25 HB25
  go_wp2_with fail
  refine (offerO_key HK26.out m _ _ _ (List.mem_singleton.2 rfl) (by decide) (by decide)).mono ?_
  rintro e w27 ⟨rfl, t27, h27⟩
  have b27 := turns_below2 t27 h27
  have HK27 := hid (HK26.out.later b27)
  have HB27 : Hid (Below w.heap.size w w27) := stepB HB26.out b27
  clear b27 t27 h27 HK26 HB26
  go_wp2_with fail
  refine (getO_none HK27.out (m + 1) _ (fun q hq => by rw [List.mem_singleton.1 hq]; show m ≠ m + 1; omega)).mono ?_
  rintro e w28 ⟨rfl, b28⟩
  have HK28 := hid (HK27.out.later b28)
  have HB28 : Hid (Below w.heap.size w w28) := stepB HB27.out b28
  clear b28 HK27 HB27
  go_wp2_with fail
  refine (getO_key HK28.out m _ _ (List.mem_singleton.2 rfl) (by decide)).mono ?_
  rintro e w29 ⟨rfl, b29⟩
  have HK29 := hid (HK28.out.later b29)
  have HB29 : Hid (Below w.heap.size w w29) := stepB HB28.out b29
  clear b29 HK28 HB28
  go_wp2_with fail
  refine (getO_empty HK29.out m _ _ (List.mem_singleton.2 rfl) (by decide) (by decide)).mono ?_
  rintro e w30 ⟨rfl, b30⟩
  have HK30 := hid (HK29.out.later b30)
  have HB30 : Hid (Below w.heap.size w w30) := stepB HB29.out b30
  clear b30 HK29 HB29
  go_wp2_with fail
  refine (dropO_none HK30.out (m + 1) (fun q hq => by rw [List.mem_singleton.1 hq]; show m ≠ m + 1; omega)).mono ?_
  rintro e w31 ⟨rfl, b31⟩
  have HK31 := hid (HK30.out.later b31)
  have HB31 : Hid (Below w.heap.size w w31) := stepB HB30.out b31
  clear b31 HK30 HB30
  go_wp2_with fail
  obtain ⟨ah, ch, hvh⟩ := hown_shape HK31.out.own
  subst hvh
  refine (heads_any k0 k1 kz ah ch _ _ _ HK31.out.kb.outer HK31.out.kb.inner HK31.out.own HK31.out.few).mono ?_
  rintro e w32 ⟨v32, rfl, o32, b32⟩
  obtain ⟨a32, c32, hv32⟩ := hown_shape o32
  subst hv32
  have HB32 : Hid (Below w.heap.size w w32) := stepB HB31.out b32
  obtain ⟨g32, f32, rfl, hg32, c0, c1⟩ := hown_rd o32 0 (by simp)
  have d0 : w32.cell? ⟨g32, f32, none⟩ = some (.int .i64 m) := by simpa using c0
  have d1 : w32.cell? ⟨g32, f32 + 1, none⟩ = some (.string ⟨#[49, 50, 51, 52, 53, 54, 55, 56]⟩) := by simpa using c1
  have heq := fun W => eq_head W m ⟨#[49, 50, 51, 52, 53, 54, 55, 56]⟩
  clear o32 b32 c0 c1 HK31 HB31 HES HEB HDB HRM HRO HPK HPV HV1 HV2 HV3 HV4 HOP HPI HOU HH1 HH2
  go_wp2_with fail
  go_ret
  exact ⟨rfl, HB32.out⟩
end Go.Proofs.YtbmohenjphmlgabGreat
