/- Part 20 of a proof: what the last text needs. -/
import Derived.Test.YtbmohenjphmlgaaPart19
import Derived.Test.YtbmohenjphmlgaaRows
import Derived.Test.YtbmohenjphmlgaaPart5
import Derived.ProofKit
import Derived.OpenShut
import Derived.ShutString
import Derived.ChangeOld
import Derived.Carry
import Derived.Deep.SlicePairs
/- The walk of the statement Spoilt. -/
namespace Go.Proofs.Ytbmohenjphmlgaa
open Go.RowKit
set_option maxRecDepth 100000

theorem town_open {w : World} {base : Nat} {v : Value} {l : List ByteArray} (h : TOwn w base v l) (i : Nat) (hi : i < l.length) : ∃ g cap, v = .slice (some ⟨g, 0, none⟩) l.length cap ∧ base ≤ g ∧ g < w.heap.size ∧ w.cell? ⟨g, i, none⟩ = some (.string l[i]) ∧ w.frozen? ⟨g, i, none⟩ = false := by
  rcases h.2 with ⟨_, h0⟩ | ⟨g, cap', cur, hv, hbg, hg, _⟩
  · omega
  · subst hv
    obtain ⟨b, off, e, hlt, hc⟩ := town_rd h i hi
    cases e
    rw [Nat.zero_add] at hc
    exact ⟨g, cap', rfl, hbg, hlt, hc, frozen_of_row _ _ i _ _ hg⟩

theorem turn_byte (n : Nat) (h : n < 255) : (((UInt8.ofNat (1 + n)).toNat : Nat) : Int) = 1 + (n : Int) ∧ UInt8.ofNat (1 + n) ≠ 0 := by
  have e : (UInt8.ofNat (1 + n)).toNat = 1 + n := by rw [UInt8.toNat_ofNat']; omega
  refine ⟨by rw [e]; omega, fun h0 => ?_⟩
  rw [h0] at e
  simp at e
  omega

set_option maxHeartbeats 12800000 in
theorem spoilt_any (a : Option Addr) (cap : Nat) (raw : List (ByteArray × ByteArray)) (key : ByteArray) (wh at_ by_ : Int) (w : World) (hr : PRd w.heap.size w a raw) (hl : raw.length ≤ maxLen)
    (h1 : -9223372036854775808 ≤ wh) (h2 : wh ≤ 9223372036854775807) (h3 : -9223372036854775808 ≤ at_) (h4 : at_ ≤ 9223372036854775807) (h5 : -9223372036854775808 ≤ by_) (h6 : by_ ≤ 9223372036854775807) :
    Calls Try.prog 11 #[.slice a raw.length cap, .string key, .int .i64 wh, .int .i64 at_, .int .i64 by_] w fun e w' => e = .returned (.bool true) ∧ Below w.heap.size w w' := by
  have HT := hid (table_any a cap raw w hr hl)
  have HFN := hid (tableB_fine raw)
  have HRT := hid (fun a cap l w h hf => root_fine a cap l w h hf)
  have HPR := hid (fun a cap l key w h hf hk => prove_fine a cap l key w h hf hk)
  have HS6 : Hid (∀ s w, Calls Try.prog 36 #[.string s, .int .i64 6] w fun e w' => e = .returned (.string (shortB s 6)) ∧ w' = w) := fun s w => shortG_any s 6 w (by decide)
  have HPW := hid (fun n hn hn2 => pick_nat wh n hn h1 h2 hn2)
  have HPA := hid (fun n hn hn2 => pick_nat at_ n hn h3 h4 hn2)
  have HPB := hid (fun n hn hn2 => pick_nat by_ n hn h5 h6 hn2)
  clear hr hl h1 h2 h3 h4 h5 h6
  go_enter Try.func11, Try.ntmps11
  go_wp2_with fail
  refine HT.out.mono ?_
  rintro e w1 ⟨v1, rfl, o1, b1⟩
  obtain ⟨a1, c1, hv1, hc1⟩ := aown_shape o1
  subst hv1
  have HO1 := hid o1
  have HB1 := hid b1
  clear o1 b1 HT hc1
  generalize tableB raw = L at *
  go_wp2_with fail
  refine (HS6.out _ _).mono ?_
  rintro e w2 ⟨rfl, hw⟩
  obtain rfl := hw.symm
  clear hw
  have HK6 := hid (shortB_size key 6)
  generalize shortB key 6 = K at *
  go_wp2_with fail
  refine (HRT.out _ _ _ _ (aown_rd HO1.out) HFN.out).mono ?_
  rintro e w2 ⟨rfl, b2⟩
  have HB2 : Hid (Below w.heap.size w w2) := stepB2 HB1.out b2
  have HO2 := hid (aown_later HO1.out b2)
  clear b2 HB1 HO1
  have HSB := hid (fun i hi s hs hne => spoilt_bent HFN.out HK6.out (i := i) hi (s := s) hs hne)
  have HSL := hid (spoilt_less HFN.out HK6.out)
  have HSM := hid (fun s hs => spoilt_more HFN.out HK6.out (s := s) hs)
  have HSR := hid (fun r hr hne => spoilt_root HFN.out HK6.out (r := r) hr hne)
  have hR8 := rootB_size L
  generalize rootB L = R at *
  go_wp2_with fail
  refine (HPR.out _ _ _ _ _ (aown_rd HO2.out) HFN.out HK6.out).mono ?_
  rintro e w3 ⟨r3, rfl, o3, b3⟩
  have HB3 : Hid (Below w.heap.size w w3) := stepB2 HB2.out b3
  obtain ⟨a3, c3, hv3, hc3⟩ := town_shape o3
  subst hv3
  have HP3 := hid o3
  have hpos := proofB_pos L K
  have HPL := hid (proofB_len HFN.out K)
  have HPS := hid (proofB_small HFN.out K)
  have HPF := hid (proofB_full (l := L) K)
  clear b3 HB2 HO2 o3 HRT HPR HS6
  generalize proofB L K = P at *
  have hlen14 := HPL.out
  have i1 : ¬ (P.length : Int) < 1 := by omega
  obtain ⟨i, hi, hpw⟩ := HPW.out P.length hpos (by omega)
  have HPWI := hid hpw
  clear hpw HPW
  have hR8i : (R.size : Int) = 8 := by omega
  go_wp2_with fail
  refine (HPWI.out _).mono ?_
  rintro e w4 ⟨rfl, hw⟩
  obtain rfl := hw.symm
  clear hw
  obtain ⟨b3, off3, hab3, hb3, hc3i⟩ := town_rd HP3.out i hi
  have HN3 : Hid (a3 = none → P.length = 0 ∧ c3 = 0) := fun e => by rw [e] at hab3; cases hab3
  subst hab3
  have HSi : Hid (0 < P[i].size ∧ P[i].size ≤ 300) := ⟨HPF.out _ (List.getElem_mem hi), HPS.out _ (List.getElem_mem hi)⟩
  have HSB' := hid (fun s hs hne => HSB.out i hi s hs hne)
  have HSM' := hid (HSM.out P[i] (Nat.le_trans HSi.out.2 (by decide)))
  obtain ⟨S, hS⟩ : ∃ S, S = P[i] := ⟨_, rfl⟩
  rw [← hS] at hc3i HSi HSB' HSM'
  have HSE := hid hS
  clear hS HSB HSM
  have j1 : (0 : Int) ≤ (i : Int) := by omega
  have j2 : (i : Int) < (P.length : Int) := by omega
  have hs1 := HSi.out.1
  have hs2 := HSi.out.2
  have j3 : ¬ (S.size : Int) < 1 := by omega
  obtain ⟨tb, htb, hpb⟩ := HPB.out 255 (by decide) (by decide)
  have HPBI := hid hpb
  clear hpb HPB
  go_wp2_with fail
  refine (HPBI.out _).mono ?_
  rintro e w4 ⟨rfl, hw⟩
  obtain rfl := hw.symm
  clear hw
  obtain ⟨t, htE⟩ : ∃ t, t = UInt8.ofNat (1 + tb) := ⟨_, rfl⟩
  obtain ⟨ht1, ht0⟩ := turn_byte tb htb
  rw [← htE] at ht1 ht0
  have HT0 := hid ht0
  have HT1 := hid ht1
  clear ht1 htE ht0
  have hv := fun w => run_string_bytes w S
  obtain ⟨m, hm, hpa⟩ := HPA.out S.size hs1 (by omega)
  have HPAI := hid hpa
  clear hpa
  go_wp2_with fail
  refine (HPAI.out _).mono ?_
  rintro e w4 ⟨rfl, hw⟩
  obtain rfl := hw.symm
  clear hw
  go_wp2_with fail
  refine (HPAI.out _).mono ?_
  rintro e w4 ⟨rfl, hw⟩
  obtain rfl := hw.symm
  clear hw
  have k1 : (0 : Int) ≤ (m : Int) := by omega
  have k2 : (m : Int) < (S.size : Int) := by omega
  have hcm := bytes_cell w3 S m hm
  have hfm := frozen_bytes w3 S m hm
  have hxm := u8_xor S[m] t
  rw [HT1.out] at hxm
  have HSU := hid (bent_sum hm HT0.out)
  obtain ⟨X, hX⟩ : ∃ X, X = S[m] ^^^ t := ⟨_, rfl⟩
  rw [← hX] at hxm HSU
  clear hX
  go_upto_region 13 with fail
  obtain ⟨W4, hW4⟩ : ∃ W, W = (Lib.bytesWorld w3 5 S).setCell ⟨w3.heap.size, m, none⟩ (.int .u8 ((X.toNat : Nat) : Int)) := ⟨_, rfl⟩
  have HBR4 := hid (brd_bent w3 S (grownCap w3 S.size 0 5) m X)
  have HB4 : Hid (Below w3.heap.size w3 ((Lib.bytesWorld w3 5 S).setCell ⟨w3.heap.size, m, none⟩ (.int .u8 ((X.toNat : Nat) : Int)))) := (below_bytesWorld w3 S).setCell (p := ⟨w3.heap.size, m, none⟩) (Nat.le_refl _) _
  rw [← hW4] at HBR4 HB4 ⊢
  have HBZ := hid (bent_size S m X)
  have hBD : (bentB S m X).data.toList = S.data.toList.set m X := rfl
  rw [← hBD] at HBR4
  clear hBD hW4 hcm hfm hxm hv
  generalize bentB S m X = S' at *
  have hv := fun w => run_string_bytes w R
  obtain ⟨mr, hmr, hpa⟩ := HPA.out 8 (by decide) (by decide)
  have HPAR := hid hpa
  clear hpa HPA HPAI k1 k2
  go_wp2_with fail
  refine (HPAR.out _).mono ?_
  rintro e w4 ⟨rfl, hw⟩
  obtain rfl := hw.symm
  clear hw
  go_wp2_with fail
  refine (HPAR.out _).mono ?_
  rintro e w4 ⟨rfl, hw⟩
  obtain rfl := hw.symm
  clear hw
  have hmR : mr < R.size := by omega
  have k1 : (0 : Int) ≤ (mr : Int) := by omega
  have k2 : (mr : Int) < 8 := by omega
  have hcm := bytes_cell W4 R mr hmR
  have hfm := frozen_bytes W4 R mr hmR
  have hxm := u8_xor R[mr] t
  rw [HT1.out] at hxm
  have HRN := hid (bent_ne hmR HT0.out)
  obtain ⟨Y, hY⟩ : ∃ Y, Y = R[mr] ^^^ t := ⟨_, rfl⟩
  rw [← hY] at hxm HRN
  clear hY
  go_upto_region 15 with fail
  obtain ⟨W5, hW5⟩ : ∃ W, W = (Lib.bytesWorld W4 5 R).setCell ⟨W4.heap.size, mr, none⟩ (.int .u8 ((Y.toNat : Nat) : Int)) := ⟨_, rfl⟩
  have HBR5 := hid (brd_bent W4 R (grownCap W4 R.size 0 5) mr Y)
  have HB5 : Hid (Below W4.heap.size W4 ((Lib.bytesWorld W4 5 R).setCell ⟨W4.heap.size, mr, none⟩ (.int .u8 ((Y.toNat : Nat) : Int)))) := (below_bytesWorld W4 R).setCell (p := ⟨W4.heap.size, mr, none⟩) (Nat.le_refl _) _
  rw [← hW5] at HBR5 HB5 ⊢
  have HRZ := hid (bent_size R mr Y)
  have hRD : (bentB R mr Y).data.toList = R.data.toList.set mr Y := rfl
  rw [← hRD] at HBR5
  clear hRD hW5 hcm hfm hxm hv k1 k2 HPAR
  generalize bentB R mr Y = R' at *
  have HBR4' := hid (brd_in HBR4.out HB5.out)
  have HB35 : Hid (Below w3.heap.size w3 W5) := stepB2 HB4.out HB5.out
  have HP5 := hid (town_later HP3.out HB35.out)
  have HB05 : Hid (Below w.heap.size w W5) := HB3.out.trans (HB35.out.mono HB3.out.size)
  have hc5 := (HB35.out.cell (p := ⟨b3, off3 + i, none⟩) hb3).trans hc3i
  have HLT : Hid (([] : List ByteArray).length + P.length ≤ 1000000) := by rw [Hid]; simp; omega
  have HSS' : Hid (S'.data.toList.length = S.size) := by rw [Hid, ba_len]; exact HBZ.out
  clear HBR4 HB5 HB4 HP3 HB3 hc3i
  have hR8' : R.data.toList.length = 8 := by rw [ba_len]; exact hR8
  go_upto_region 18 with (at_builtin; refine wpList_append_texts _ rfl (.tmp 114) (.tmp 115) rfl W5.heap.size W5.heap.size _ (some ⟨b3, off3, none⟩) c3 [] P rfl rfl (town_nil _ _) (town_rd HP5.out) HN3.out HLT.out (Nat.le_refl _) ?_; intro v6 W6 ho hg hn; rw [List.nil_append] at ho; have HO6 := hid ho; have HB6 : Hid (Below W5.heap.size W5 W6) := (Below.refl _ _).grown hg (Nat.le_refl _) (fun g hg => by cases hg); obtain ⟨g6, c6, hv6, hl6, hb6, hc6, hf6⟩ := town_open ho i hi; subst hv6; have hcv := run_bytes_string (brd_in HBR4'.out HB6.out); clear ho hg hn)
  obtain ⟨W7, hW7⟩ : ∃ W, W = W6.setCell ⟨g6, i, none⟩ (.string ⟨S'.data⟩) := ⟨_, rfl⟩
  have HB7 : Hid (Below W5.heap.size W5 (W6.setCell ⟨g6, i, none⟩ (.string ⟨S'.data⟩))) := HB6.out.setCell (p := ⟨g6, i, none⟩) hl6 _
  have HS7 : Hid (SRd (W6.setCell ⟨g6, i, none⟩ (.string ⟨S'.data⟩)).heap.size (W6.setCell ⟨g6, i, none⟩ (.string ⟨S'.data⟩)) (some ⟨g6, 0, none⟩) (P.set i S')) := by
    have h := srd_set (town_rd HO6.out) i S'
    rw [Nat.zero_add] at h
    exact h.wider (Nat.le_of_eq Array.size_modify.symm)
  rw [← hW7] at HB7 HS7 ⊢
  clear hW7 hcv hc6 hf6 hb6 HO6 HB6 hl6
  have HP7 := hid (town_later HP5.out HB7.out)
  have hc7 := (HB7.out.cell (p := ⟨b3, off3 + i, none⟩) (Nat.lt_of_lt_of_le hb3 HB35.out.size)).trans hc5
  have HB07 : Hid (Below w.heap.size w W7) := HB05.out.trans (HB7.out.mono HB05.out.size)
  have HBR7 := hid (brd_in HBR5.out HB7.out)
  clear HP5 HB05 HBR5 HBR4' hc5
  have HV1 : Hid (∀ w', Below W7.heap.size W7 w' → Calls Try.prog 32 #[.string R, .string K, .slice (some ⟨g6, 0, none⟩) P.length c6] w' fun e w2 => e = .returned (.tuple #[.string ⟨#[]⟩, .bool false, .int .i64 6]) ∧ Below w'.heap.size w' w2) := by
    intro w' b
    have h := verify_six (root := R) (key := K) (cap := c6) ((HS7.out.later b).wider b.size) (HSB'.out S' (by rw [HBZ.out]; omega) HSU.out)
    rw [List.length_set] at h
    exact h
  have HTL : Hid ((P.take (P.length - 1)).length = P.length - 1) := by rw [Hid, List.length_take]; omega
  have HLT2 : Hid (([] : List ByteArray).length + (P.take (P.length - 1)).length ≤ 1000000) := by rw [Hid, HTL.out]; simp; omega
  have HLE : Hid (P.length ≤ 1000000) := by rw [Hid]; omega
  clear HS7 HSB' HBZ HSU hs1 hs2 j3
  go_wp2_with (first
    | (at_builtin; refine wpList_append_texts _ rfl (.tmp 122) (.tmp 127) rfl W7.heap.size W7.heap.size _ (some ⟨b3, off3, none⟩) c3 [] (P.take (P.length - 1)) rfl (by rw [HTL.out]; rfl) (town_nil _ _) (srd_take (town_rd HP7.out) _) (fun e => by cases e) HLT2.out (Nat.le_refl _) ?_; intro v8 W8 ho hg hn; rw [List.nil_append] at ho; have HO8 := hid ho; have HB8 : Hid (Below W7.heap.size W7 W8) := (Below.refl _ _).grown hg (Nat.le_refl _) (fun g hg => by cases hg); obtain ⟨a8, c8, hv8, _⟩ := town_shape ho; rw [HTL.out] at hv8; subst hv8; have HP8 := hid (town_later HP7.out HB8.out); clear ho hg hn)
    | (at_builtin; refine wpList_append_texts _ rfl (.tmp 129) (.tmp 130) rfl W8.heap.size W8.heap.size _ (some ⟨b3, off3, none⟩) c3 [] P rfl rfl (town_nil _ _) (town_rd HP8.out) (fun e => by cases e) HLT.out (Nat.le_refl _) ?_; intro v9 W9 ho hg hn; rw [List.nil_append] at ho; have HO9 := hid ho; have HB9 : Hid (Below W8.heap.size W8 W9) := (Below.refl _ _).grown hg (Nat.le_refl _) (fun g hg => by cases hg); obtain ⟨a9, c9, hv9, _⟩ := town_shape ho; subst hv9; have hc9 := (HB9.out.cell (p := ⟨b3, off3 + i, none⟩) (Nat.lt_of_lt_of_le (Nat.lt_of_lt_of_le (Nat.lt_of_lt_of_le hb3 HB35.out.size) HB7.out.size) HB8.out.size)).trans ((HB8.out.cell (p := ⟨b3, off3 + i, none⟩) (Nat.lt_of_lt_of_le (Nat.lt_of_lt_of_le hb3 HB35.out.size) HB7.out.size)).trans hc7); clear ho hg hn)
    | (at_builtin; refine wpList_push_text rfl (.tmp 132) (.tmp 137) rfl S W9.heap.size rfl rfl rfl HO9.out (Below.refl _ _) HB9.out (Nat.le_refl _) HLE.out ?_; intro v10 W10 ho hb; have HO10 := hid ho; have HB10 := hid hb; obtain ⟨a10, c10, hv10, _⟩ := town_shape ho; rw [List.length_append] at hv10; subst hv10; clear ho hb))
  have HB710 : Hid (Below W7.heap.size W7 W10) := stepB2 HB8.out HB10.out
  refine (HV1.out _ HB710.out).mono ?_
  rintro e W11 ⟨rfl, b11⟩
  have HB811 : Hid (Below W8.heap.size W8 W11) := stepB2 HB10.out b11
  have HO11 := hid (town_later HO10.out b11)
  have HB711 : Hid (Below W7.heap.size W7 W11) := stepB2 HB710.out b11
  clear b11 HV1
  have HV2 : Hid (Calls Try.prog 32 #[.string R, .string K, .slice a8 (P.length - 1) c8] W11 fun e w2 => e = .returned (.tuple #[.string ⟨#[]⟩, .bool false, .int .i64 6]) ∧ Below W11.heap.size W11 w2) := by
    have h := verify_six (root := R) (key := K) (cap := c8) (((town_rd HO8.out).later HB811.out).wider HB811.out.size) HSL.out
    rw [HTL.out] at h
    exact h
  go_wp2_with fail
  refine HV2.out.mono ?_
  rintro e W12 ⟨rfl, b12⟩
  have HO12 := hid (town_later HO11.out b12)
  have HB712 : Hid (Below W7.heap.size W7 W12) := stepB2 HB711.out b12
  clear b12 HV2
  have HV3 : Hid (Calls Try.prog 32 #[.string R, .string K, .slice a10 (P.length + 1) c10] W12 fun e w2 => e = .returned (.tuple #[.string ⟨#[]⟩, .bool false, .int .i64 6]) ∧ Below W12.heap.size W12 w2) := by
    have h := verify_six (root := R) (key := K) (cap := c10) (town_rd HO12.out) HSM'.out
    rw [List.length_append] at h
    exact h
  go_wp2_with fail
  refine HV3.out.mono ?_
  rintro e W13 ⟨rfl, b13⟩
  have HB713 : Hid (Below W7.heap.size W7 W13) := stepB2 HB712.out b13
  clear b13 HV3
  have HBR13 := hid (brd_in HBR7.out HB713.out)
  rw [hR8] at HBR13
  have hcv := run_bytes_string HBR13.out
  have HP13 := hid (town_later HP7.out HB713.out)
  have HV4 : Hid (Calls Try.prog 32 #[.string R', .string K, .slice (some ⟨b3, off3, none⟩) P.length c3] W13 fun e w2 => e = .returned (.tuple #[.string ⟨#[]⟩, .bool false, .int .i64 6]) ∧ Below W13.heap.size W13 w2) :=
    verify_six (town_rd HP13.out) (HSR.out R' (by rw [HRZ.out]; exact hR8) HRN.out)
  go_wp2_with fail
  refine HV4.out.mono ?_
  rintro e W14 ⟨rfl, b14⟩
  have HBF : Hid (Below w.heap.size w W14) := stepB2 (HB07.out.trans (HB713.out.mono HB07.out.size)) b14
  clear b14 HV4
  go_wp2_with fail
  go_ret
  exact ⟨rfl, HBF.out⟩
end Go.Proofs.Ytbmohenjphmlgaa

/- A row of pairs that was handed in, opened. -/
namespace Go.Proofs.Ytbmohenjphmlgaa
open Go.ChangeShapes Go.WideShapes Go.ChangeAt Go.RowKit
set_option maxRecDepth 100000

theorem open_apairs {H : Type} {enc : TypeId × Value → H} {W : World} {r : Reach} {b0 : Nat} {sp : Nat → Bool} {v : Value} {d : DataW H} {ps : List MemPlace} (hval : Value.okWide Try.prog W r b0 47 v)
    (hd : DataW.Trod enc Try.prog W 0 sp true 47 v d ps) : ∃ a cap l, v = .slice a l.length cap ∧ PRd W.heap.size W a l ∧ l.length ≤ maxLen := by
  obtain ⟨a, len, cap, rfl⟩ := okWide_slice Try.underlying47 hval
  obtain ⟨fuel, hf⟩ := hd
  rcases Go.Deep.open_slice_pairs Try.underlying47 Try.underlying72 (by kernel_rfl) rfl rfl (by kernel_rfl) (by kernel_rfl) hf with ⟨h0, _⟩ | ⟨a', len', cap', m, n, V0, V1, D0, D1, P0, P1, h0, _, hl, hm, hmm, _, hc⟩
  · simp only [Value.cells, List.cons.injEq, and_true, Value.slice.injEq] at h0
    obtain ⟨rfl, rfl, rfl⟩ := h0
    exact ⟨none, 0, [], rfl, fun i hi => by simp at hi, Nat.zero_le _⟩
  · simp only [Value.cells, List.cons.injEq, and_true, Value.slice.injEq] at h0
    obtain ⟨rfl, rfl, rfl⟩ := h0
    have hlm : len ≤ m := by rw [hmm]; split <;> omega
    have str : ∀ i, i < len → ∃ s0 s1 : ByteArray, V0 i = .string s0 ∧ V1 i = .string s1 := by
      intro i hi
      obtain ⟨_, _, t0, t1⟩ := hc i (by omega)
      obtain ⟨s0, e0, _⟩ := DataW.trod_string Try.underlying9 t0
      obtain ⟨s1, e1, _⟩ := DataW.trod_string Try.underlying9 t1
      simp only [List.cons.injEq, and_true] at e0 e1
      exact ⟨s0, s1, e0, e1⟩
    let f : Nat → ByteArray × ByteArray := fun i => ((match V0 i with | .string s => s | _ => ⟨#[]⟩), (match V1 i with | .string s => s | _ => ⟨#[]⟩))
    refine ⟨some a', cap, (List.range len).map f, by rw [List.length_map, List.length_range], fun i hi => ?_, by rw [List.length_map, List.length_range]; omega⟩
    rw [List.length_map, List.length_range] at hi
    obtain ⟨c0, c1, _, _⟩ := hc i (by omega)
    obtain ⟨s0, s1, e0, e1⟩ := str i hi
    obtain ⟨b, off, spot⟩ := a'
    have hspot : spot = none := by simpa [Addr.add] using World.cell?_spot (hc 0 (by omega)).1
    subst hspot
    rw [Go.WideShapes.add_plain] at c0 c1
    refine ⟨b, off, rfl, World.block_lt_of_cell? W _ c0, ?_, ?_⟩
    · rw [c0, List.getElem_map, List.getElem_range]; simp only [f, e0]
    · rw [show off + i * 2 + 1 = off + (i * 2 + 1) by omega, c1, List.getElem_map, List.getElem_range]; simp only [f, e1]

end Go.Proofs.Ytbmohenjphmlgaa
