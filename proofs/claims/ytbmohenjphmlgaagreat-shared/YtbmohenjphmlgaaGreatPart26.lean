/- Part 26 of a proof: what the last text needs. -/
import Derived.Test.YtbmohenjphmlgaaGreatPart24
import Derived.Test.YtbmohenjphmlgaaGreatPart25
import Derived.Test.YtbmohenjphmlgaaGreatRows
import Derived.Test.YtbmohenjphmlgaaGreatPart15
import Derived.ProofKit
import Derived.OpenShut
import Derived.ShutString
import Derived.ChangeOld
import Derived.JoinedCond
import Derived.Lib.SmallJoins
import Derived.SliceStrings
import Derived.Test.YtbmohenjphmlgaaGreatPart5
import Derived.Carry
import Derived.Deep.SlicePairs
/- The walk of Shared (of the statements). -/
namespace Go.Proofs.YtbmohenjphmlgaaGreat
open Go.RowKit
set_option maxRecDepth 100000

theorem nil_pointer (w : World) (k0 : Nat) : (binOp .eql 34 (.pointer (some ⟨k0, 0, none⟩)) (.pointer none)).run Tryz.prog w = .ok (.bool false) w := by rfl

theorem get_is {own : Nat → Prop} {w : World} {k0 : Nat} {l : List (Int × ByteArray)} {S : List (List UInt8)} (h : KAt own w k0 l S) {x : Int} {r : ByteArray} (hx : (x, r) ∈ l) (key V : ByteArray) (ht : Tr.tell S r.data.toList key.data.toList = (V.data.toList, !V.data.toList.isEmpty, 0)) :
    Calls Tryz.prog 20 #[.pointer (some ⟨k0, 0, none⟩), .int .i64 x, .string key] w fun e w' => e = .returned (.tuple #[.string V, .bool (!(V.toList == [])), .int .i64 0]) ∧ Below w.heap.size w w' := by
  refine (kat_get h hx key).mono ?_
  rintro e w' ⟨s, b, n, rfl, ⟨N, rfl, hN⟩, hb⟩
  rw [ht] at hN
  simp only [Prod.mk.injEq] at hN
  obtain ⟨h1, rfl, rfl⟩ := hN
  obtain rfl := ba_ext.2 h1
  have e1 : (V.toList == []) = V.data.toList.isEmpty := by
    rw [ByteArray.toList_eq]
    cases V.data.toList <;> rfl
  rw [e1]
  exact ⟨rfl, hb⟩

theorem get_unknown {own : Nat → Prop} {w : World} {k0 : Nat} {l : List (Int × ByteArray)} {S : List (List UInt8)} (h : KAt own w k0 l S) {x : Int} {r : ByteArray} (hx : (x, r) ∈ l) (key : ByteArray) (ht : Tr.tell S r.data.toList key.data.toList = ([], false, 11)) :
    Calls Tryz.prog 20 #[.pointer (some ⟨k0, 0, none⟩), .int .i64 x, .string key] w fun e w' => e = .returned (.tuple #[.string ⟨#[]⟩, .bool false, .int .i64 11]) ∧ Below w.heap.size w w' := by
  refine (kat_get h hx key).mono ?_
  rintro e w' ⟨s, b, n, rfl, ⟨N, rfl, hN⟩, hb⟩
  rw [ht] at hN
  simp only [Prod.mk.injEq] at hN
  obtain ⟨h1, rfl, rfl⟩ := hN
  obtain rfl : (⟨#[]⟩ : ByteArray) = s := ba_ext.2 h1
  exact ⟨rfl, hb⟩

set_option maxHeartbeats 12800000 in
theorem shared_any (a : Option Addr) (cap : Nat) (raw : List (ByteArray × ByteArray)) (ka : Option Addr) (kcap : Nat) (keys : List ByteArray) (key : ByteArray) (height : Int) (w : World) (hr : PRd w.heap.size w a raw) (hl : raw.length ≤ maxLen) (hk : SRd w.heap.size w ka keys) (hkc : keys.length ≤ kcap) (h1 : -9223372036854775808 ≤ height) (h2 : height ≤ 9223372036854775807) :
    Calls Tryz.prog 5 #[.slice a raw.length cap, .slice ka keys.length kcap, .string key, .int .i64 height] w fun e w' => e = .returned (.bool true) ∧ Below w.heap.size w w' := by
  have HT := hid (table_any a cap raw w hr hl)
  have HFN := hid (tableB_fine raw)
  have HLN := hid (tableB_len raw)
  have HRT := hid (fun a cap l w h hf => root_fine a cap l w h hf)
  have HVA := hid (fun a cap l key w h hl => value_any a cap l key w h hl)
  have HSH := hid (fun s w => shortG_any s 6 w (by decide))
  have HPI := hid (fun w => pick_any height 1000001 w (by decide) h1 h2 (by decide))
  have HFW := hid (fun w => few_any ka kcap 8 keys w (by decide) hkc)
  have HK8 := hid (srd_take hk 8)
  have HKL : Hid ((keys.take 8).length ≤ 8) := by rw [Hid, List.length_take]; omega
  clear hr hl h1 h2 hk hkc
  go_enter Tryz.func5, Tryz.ntmps5
  go_wp2_with fail
  refine HT.out.mono ?_
  rintro e w1 ⟨v1, rfl, o1, b1⟩
  obtain ⟨a1, c1, hv1, hc1⟩ := aown_shape o1
  subst hv1
  have HO1 := hid o1
  have HB1 := hid b1
  clear o1 b1 HT
  generalize tableB raw = L at *
  go_wp2_with fail
  refine (HPI.out _).mono ?_
  rintro e w1' ⟨⟨x, rfl, hx0, hx1⟩, hw⟩
  obtain rfl := hw.symm
  clear hw HPI
  go_wp2_with fail
  refine (HRT.out _ _ _ _ (aown_rd HO1.out) HFN.out).mono ?_
  rintro e w2 ⟨rfl, b2⟩
  have HB2 : Hid (Below w.heap.size w w2) := stepB2 HB1.out b2
  have HO2 := hid (aown_later HO1.out b2)
  clear b2 HB1 HO1 HRT
  obtain ⟨R, hR⟩ : ∃ R, R = rootB L := ⟨_, rfl⟩
  have HRL : Hid (R = rootB L) := hR
  rw [← hR]
  clear hR
  have HR8 : Hid (R.size = 8) := by rw [Hid, HRL.out]; exact rootB_size L
  go_wp2_with fail
  refine (kat_open w2).mono ?_
  rintro e w3 ⟨k0, own0, rfl, q3, n3, b3⟩
  have HQ3 := hid q3
  have HN3 := hid n3
  have HB3 := hid b3
  have hnil := fun w => nil_pointer w k0
  clear q3 n3 b3
  go_wp2_with fail
  have HTR := kat_trust HQ3.out x R hx0 (by omega) HR8.out (by simp) (fun q hq => by simp at hq) (insert_nil x R)
  refine HTR.mono ?_
  rintro e w4 ⟨rfl, own, p4, p4l, _, _, q4, n4, t4⟩
  have HQ4 : Hid (KAt own w4 k0 [(x, R)] []) := by
    obtain rfl : p4 = 0 := by simpa using p4l
    exact q4
  have HN4 : Hid (∀ k, own k → w2.heap.size ≤ k) := fun k hk => by
    rcases n4 k hk with h | h
    · exact HN3.out k h
    · exact Nat.le_trans HB3.out.size h
  have HB4 : Hid (Below w2.heap.size w2 w4) := t4.below HB3.out HB3.out.size HN3.out
  clear q4 n4 t4 HQ3 HN3 HB3 p4l HTR
  go_wp2_with fail
  refine (HFW.out _).mono ?_
  rintro e w4' ⟨rfl, hw⟩
  obtain rfl := hw.symm
  clear hw HFW
  have HK4 : Hid (SRd w2.heap.size w4 ka (keys.take 8)) := (((HK8.out.later HB2.out).wider HB2.out.size).later HB4.out)
  have HL4 : Hid (PRd w2.heap.size w4 a1 L) := (aown_rd HO2.out).later HB4.out
  generalize keys.take 8 = K at *
  have hK8 : K.length ≤ 8 := HKL.out
  go_wp2_with fail
  refine (proofs_any a1 c1 L ka kcap K w4 (HL4.out.wider HB4.out.size) HFN.out (HK4.out.wider HB4.out.size) (by omega)).mono ?_
  rintro e w5 ⟨v5, rfl, o5, b5⟩
  obtain ⟨a5, c5, hv5, _⟩ := town_shape o5
  subst hv5
  have HO5 := hid o5
  have HB5 := hid b5
  have HAL : Hid ((allB L K).length ≤ 112) := by have := allB_len HFN.out K; rw [Hid]; omega
  clear o5 b5
  generalize hA : allB L K = A at *
  have HA := hid hA
  clear hA
  go_wp2_with (at_builtin; refine wpList_append_texts _ rfl (.tmp 66) (.tmp 67) rfl w4.heap.size w5.heap.size (.slice none 0 0) a5 c5 [] A rfl rfl (town_nil _ _) (town_rd HO5.out) (town_none HO5.out) (by have := HAL.out; simp; omega) HB5.out.size ?_; intro v6 w6 ho6 hg6 hn6; have HO6 := hid ho6; have HG6 := hid hg6; clear ho6 hg6 hn6)
  obtain ⟨a6, c6, hv6, _⟩ := town_shape HO6.out
  subst hv6
  rw [List.nil_append] at HO6
  rw [List.nil_append]
  have HB6 : Hid (Below w4.heap.size w4 w6) := HB5.out.trans ⟨HG6.out.os, HG6.out.tape, HG6.out.output, HG6.out.size, fun i hi => HG6.out.block i (Nat.lt_of_lt_of_le hi HB5.out.size) (by simp [Value.ownBlock])⟩
  have HB7 : Hid (Below w4.heap.size w4 (w6.alloc (.cells #[.string key] 9))) := HB6.out.alloc HB6.out.size _
  have HO7 : Hid (TOwn (w6.alloc (.cells #[.string key] 9)) w4.heap.size (.slice a6 A.length c6) A) := town_later HO6.out ((Below.refl _ _).alloc (Nat.le_refl _) _)
  have HSL : Hid (SRd (w6.alloc (.cells #[.string key] 9)).heap.size (w6.alloc (.cells #[.string key] 9)) (some ⟨w6.heap.size, 0, none⟩) [key]) := by rw [Hid, alloc_size]; exact srd_lone key _
  clear HG6 HB5 HO5 HO6
  generalize w6.alloc (.cells #[.string key] 9) = w7 at *
  refine (proofs_any a1 c1 L (some ⟨w6.heap.size, 0, none⟩) 1 [key] w7 ((HL4.out.later (HB7.out.mono HB4.out.size)).wider (Nat.le_trans HB4.out.size HB7.out.size)) HFN.out HSL.out (by simp)).mono ?_
  rintro e w8 ⟨v8, rfl, o8, b8⟩
  obtain ⟨a8, c8, hv8, _⟩ := town_shape o8
  subst hv8
  have HO8 := hid o8
  have HB8 : Hid (Below w4.heap.size w4 w8) := HB7.out.trans (b8.mono HB7.out.size)
  have HO7' := hid (town_later HO7.out b8)
  have HCL : Hid ((allB L [key]).length ≤ 14) := by have := allB_len HFN.out [key]; rw [Hid]; simpa using this
  clear o8 b8 HO7 HSL HB7
  generalize hC : allB L [key] = C at *
  have HC := hid hC
  clear hC
  go_wp2_with (at_builtin; refine wpList_append_texts _ rfl (.tmp 69) (.tmp 73) rfl w4.heap.size w8.heap.size (.slice a6 A.length c6) a8 c8 A C rfl rfl HO7'.out (town_rd HO8.out) (town_none HO8.out) (by have := HAL.out; have := HCL.out; omega) HB8.out.size ?_; intro v9 w9 ho9 hg9 hn9; have HO9 := hid ho9; have HG9 := hid hg9; clear ho9 hg9 hn9)
  obtain ⟨a9, c9, hv9, _⟩ := town_shape HO9.out
  subst hv9
  have HB9 : Hid (Below w4.heap.size w4 w9) := HB8.out.grown HG9.out HB8.out.size (fun g hg => (town_lt HO7'.out g hg).1)
  have HLW : Hid ((A ++ C).length ≤ 1000000) := by rw [Hid, List.length_append]; have := HAL.out; have := HCL.out; omega
  have HZW : Hid (∀ s ∈ A ++ C, s.size ≤ 1000000000) := by
    intro s hs
    rcases List.mem_append.1 hs with h | h
    · rw [← HA.out] at h
      obtain ⟨k, _, hp⟩ := allB_mem.1 h
      exact Nat.le_trans (proofB_small HFN.out _ s hp) (by decide)
    · rw [← HC.out] at h
      obtain ⟨k, _, hp⟩ := allB_mem.1 h
      exact Nat.le_trans (proofB_small HFN.out _ s hp) (by decide)
  have HMT := hid (meet_any a9 c9 (A ++ C) w9 (town_rd HO9.out) HLW.out HZW.out)
  clear HG9 HO8 HO7' HB8 HB6 HLW HZW HO9
  generalize hWD : A ++ C = WD at *
  have HWD := hid hWD
  clear hWD
  refine HMT.out.mono ?_
  rintro e w10 ⟨same, rfl, hsame, b10⟩
  have HB10 : Hid (Below w4.heap.size w4 w10) := HB9.out.trans (b10.mono HB9.out.size)
  have HSM := hid hsame
  clear hsame b10 HMT HB9
  have HB10' : Hid (Below w2.heap.size w2 w10) := HB4.out.trans (HB10.out.mono HB4.out.size)
  cases same with
  | true =>
    go_wp2_with fail
    go_ret
    exact ⟨rfl, HB2.out.trans (HB10'.out.mono HB2.out.size)⟩
  | false =>
    have HAP : Hid (Apart2 WD) := not_meets (HSM.out rfl)
    have HQ10 := hid (kat_later HQ4.out HB10.out)
    clear HSM HQ4 HB10
    go_wp2_with fail
    go_loopw [18] (fun i wr => ∃ m : Nat, i = .int .i64 m ∧ m ≤ K.length ∧ Hid (KAt own wr k0 [(x, R)] (bl (allB L (K.take m))) ∧ Below w2.heap.size w2 wr)) (fun i _ => K.length - (intOf i).toNat)
    case atStart => exact ⟨0, rfl, Nat.zero_le _, HQ10.out, HB10'.out⟩
    case round =>
      obtain ⟨m, rfl, hm, HH⟩ := hrel
      by_cases hlt : m < K.length
      · have HBW : Hid (Below w.heap.size w wr) := HB2.out.trans (HH.out.2.mono HB2.out.size)
        obtain ⟨b, off, rfl, hb, e0⟩ := HK8.out m hlt
        have f0 := (HBW.out.cell (p := ⟨b, off + m, none⟩) hb).trans e0
        have i1 : (0 : Int) ≤ (m : Int) := by omega
        have i2 : (m : Int) < (K.length : Int) := by omega
        have HNX : Hid (Tr.addAll (bl (allB L (K.take m))) (bl (proofB L (shortB K[m] 6))) = bl (allB L (K.take (m + 1)))) := shared_next HAP.out (fun y hy => by rw [← HWD.out, ← HA.out]; exact List.mem_append_left _ hy) hlt
        have HLM : Hid ((bl (allB L (K.take m))).length ≤ 186) := by
          have h1 := allB_len HFN.out (K.take m)
          have h2 : (K.take m).length ≤ 8 := by rw [List.length_take]; omega
          rw [Hid, bl_len]; omega
        have HOF : Hid (offerTo (bl (allB L (K.take m))) R.data.toList (shortB K[m] 6).data.toList (bl (proofB L (shortB K[m] 6))) = (0, bl (allB L (K.take (m + 1))))) := by
          rw [Hid, HRL.out, offer_proved HFN.out (shortB_size _ _) HLM.out, HNX.out]
        have HPR := hid (prove_fine a1 c1 L (shortB K[m] 6) wr (((aown_rd HO2.out).later HH.out.2).wider HH.out.2.size) HFN.out (shortB_size _ _))
        have HSHm := hid (fun w => HSH.out K[m] w)
        have HKO := hid (fun W (hW : Below wr.heap.size wr W) pa pc (hp : SRd W.heap.size W pa (proofB L (shortB K[m] 6))) => kat_offer (kat_later HH.out.1 hW) (List.mem_singleton.2 rfl : (x, R) ∈ [(x, R)]) (shortB K[m] 6) pa pc (proofB L (shortB K[m] 6)) hp)
        rw [HOF.out] at HKO
        clear e0 HNX HLM HOF HSH
        generalize hkm : shortB K[m] 6 = km at *
        generalize K[m] = kr at *
        go_wp2_with fail
        refine (HSHm.out _).mono ?_
        rintro e w11 ⟨rfl, hw⟩
        obtain rfl := hw.symm
        clear hw
        go_wp2_with fail
        refine HPR.out.mono ?_
        rintro e w12 ⟨r12, rfl, o12, b12⟩
        obtain ⟨pa, pc, hv, _⟩ := town_shape o12
        subst hv
        have g0 := (b12.cell (p := ⟨b, off + m, none⟩) (Nat.lt_of_lt_of_le hb HBW.out.size)).trans f0
        have HO12 := hid o12
        have HB12 := hid b12
        clear o12 b12 f0
        go_wp2_with fail
        refine (HSHm.out _).mono ?_
        rintro e w13 ⟨rfl, hw⟩
        obtain rfl := hw.symm
        clear hw
        go_wp2_with fail
        refine (HKO.out _ HB12.out _ _ (town_rd HO12.out)).mono ?_
        rintro e w14 ⟨rfl, q14, t14⟩
        have HQ14 := hid q14
        have HB14 : Hid (Below w2.heap.size w2 w14) := t14.below (HH.out.2.trans (HB12.out.mono HH.out.2.size)) (Nat.le_trans HH.out.2.size HB12.out.size) HN4.out
        clear q14 t14
        go_wp2_with fail
        exact ⟨⟨m + 1, by go_num, by omega, HQ14.out, HB14.out⟩, by simp [intOf]; omega⟩
      · obtain rfl : m = K.length := by omega
        have i2 : ¬ (K.length : Int) < (K.length : Int) := by omega
        rw [List.take_length] at HH
        rw [HA.out] at HH
        have HQE := hid HH.out.1
        have HBE := hid HH.out.2
        have HKE := hid (kat_kept HQE.out)
        rw [bl_len] at HKE
        clear HH hlt HQ10 HB10'
        go_wp2_with fail
        refine HKE.out.mono ?_
        rintro e w15 ⟨rfl, hw⟩
        obtain rfl := hw.symm
        clear hw HKE
        have HSH2 := hid (fun s w => shortG_any s 6 w (by decide))
        go_wp2_with fail
        go_loopw [23] (fun i wx => ∃ m : Nat, i = .int .i64 m ∧ m ≤ K.length ∧ Hid (Below wr.heap.size wr wx)) (fun i _ => K.length - (intOf i).toNat)
        case atStart => exact ⟨0, rfl, Nat.zero_le _, Below.refl _ _⟩
        case round =>
          obtain ⟨m, rfl, hm, HH⟩ := hrel
          have HBX : Hid (Below w2.heap.size w2 wr) := HBE.out.trans (HH.out.mono HBE.out.size)
          have HBW : Hid (Below w.heap.size w wr) := HB2.out.trans (HBX.out.mono HB2.out.size)
          by_cases hlt : m < K.length
          · obtain ⟨b, off, rfl, hb, e0⟩ := HK8.out m hlt
            have f0 := (HBW.out.cell (p := ⟨b, off + m, none⟩) hb).trans e0
            have i1 : (0 : Int) ≤ (m : Int) := by omega
            have i2 : (m : Int) < (K.length : Int) := by omega
            have HTL : Hid (Tr.tell (bl A) R.data.toList (shortB K[m] 6).data.toList = ((valB L (shortB K[m] 6)).data.toList, !(valB L (shortB K[m] 6)).data.toList.isEmpty, 0)) := by
              rw [Hid, HRL.out]
              refine tell_proved HFN.out (shortB_size _ _) ?_
              rw [← HA.out]
              exact shared_found HAP.out (fun y hy => by rw [← HWD.out, ← HA.out]; exact List.mem_append_left _ hy) (List.getElem_mem hlt)
            have HGT := hid (get_is (kat_later HQE.out HH.out) (List.mem_singleton.2 rfl : (x, R) ∈ [(x, R)]) (shortB K[m] 6) _ HTL.out)
            have HVL := hid (fun W (hW : Below wr.heap.size wr W) => value_any a1 c1 L (shortB K[m] 6) W (((aown_rd HO2.out).later (HBX.out.trans (hW.mono HBX.out.size))).wider (Nat.le_trans HBX.out.size hW.size)) (by have := HFN.out.1; omega))
            have HSHm := hid (fun w => HSH2.out K[m] w)
            clear e0 HTL HSH2
            generalize valB L (shortB K[m] 6) = V at *
            generalize shortB K[m] 6 = km at *
            generalize K[m] = kr at *
            go_wp2_with fail
            refine (HSHm.out _).mono ?_
            rintro e w17 ⟨rfl, hw⟩
            obtain rfl := hw.symm
            clear hw
            go_wp2_with fail
            refine HGT.out.mono ?_
            rintro e w18 ⟨rfl, b18⟩
            have HB18 := hid b18
            clear b18
            go_wp2_with fail
            refine (HVL.out _ HB18.out).mono ?_
            rintro e w19 ⟨rfl, hw⟩
            obtain rfl := hw.symm
            clear hw
            go_wp2_with fail
            exact ⟨⟨m + 1, by go_num, by omega, HH.out.trans (HB18.out.mono HH.out.size)⟩, by simp [intOf]; omega⟩
          · obtain rfl : m = K.length := by omega
            have i2 : ¬ (K.length : Int) < (K.length : Int) := by omega
            have HQX := hid (kat_later HQE.out HH.out)
            have HSHk := hid (fun w => HSH2.out key w)
            have HDP : Hid (∀ W, Below wr.heap.size wr W → Calls Tryz.prog 22 #[.pointer (some ⟨k0, 0, none⟩), .int .i64 x] W fun e w' => e = .returned (.int .i64 0) ∧ KAt own w' k0 [] [] ∧ Turns own W w') := fun W hW => kat_drop (p := 0) (kat_later HQX.out hW) (by simp) rfl (fun h => by simp at h)
            have HVL := hid (fun W (hW : Below wr.heap.size wr W) => value_any a1 c1 L (shortB key 6) W (((aown_rd HO2.out).later (HBX.out.trans (hW.mono HBX.out.size))).wider (Nat.le_trans HBX.out.size hW.size)) (by have := HFN.out.1; omega))
            have HTL := hid (tell_other HFN.out (shortB_size key 6) (shared_apart (keys := K) (key := shortB key 6) HAP.out (fun y hy => by rw [← HWD.out, ← HA.out]; exact List.mem_append_left _ hy) (fun y hy => by rw [← HWD.out, ← HC.out]; exact List.mem_append_right _ (allB_mem.2 ⟨key, List.mem_singleton.2 rfl, hy⟩))))
            rw [HA.out, ← HRL.out] at HTL
            clear hlt HH HQE HBE HSH2
            generalize valB L (shortB key 6) = V at *
            generalize shortB key 6 = kx at *
            rcases HTL.out with htl | htl
            · have HGT := hid (get_is HQX.out (List.mem_singleton.2 rfl : (x, R) ∈ [(x, R)]) kx V htl)
              clear htl HTL
              go_wp2_with fail
              refine (HSHk.out _).mono ?_
              rintro e w17 ⟨rfl, hw⟩
              obtain rfl := hw.symm
              clear hw
              go_wp2_with fail
              refine HGT.out.mono ?_
              rintro e w18 ⟨rfl, b18⟩
              have HB18 := hid b18
              clear b18
              go_wp2_with fail
              refine (HVL.out _ HB18.out).mono ?_
              rintro e w19 ⟨rfl, hw⟩
              obtain rfl := hw.symm
              clear hw
              go_wp2_with fail
              refine (HDP.out _ HB18.out).mono ?_
              rintro e w20 ⟨rfl, q20, t20⟩
              have HQ20 := hid q20
              have HB20 : Hid (Below w2.heap.size w2 w20) := t20.below (HBX.out.trans (HB18.out.mono HBX.out.size)) (Nat.le_trans HBX.out.size HB18.out.size) HN4.out
              clear q20 t20 HDP
              go_wp2_with fail
              refine (kat_kept HQ20.out).mono ?_
              rintro e w21 ⟨rfl, hw⟩
              obtain rfl := hw.symm
              clear hw
              go_wp2_with fail
              refine (kat_lost HQ20.out (fun q hq => by simp at hq) kx).mono ?_
              rintro e w22 ⟨rfl, b22⟩
              have HB22 : Hid (Below w2.heap.size w2 w22) := HB20.out.trans (b22.mono HB20.out.size)
              clear b22
              go_wp2_with fail
              go_ret
              exact ⟨by simp, HB2.out.trans (HB22.out.mono HB2.out.size)⟩
            · have HGT := hid (get_unknown HQX.out (List.mem_singleton.2 rfl : (x, R) ∈ [(x, R)]) kx htl)
              clear htl HTL
              go_wp2_with fail
              refine (HSHk.out _).mono ?_
              rintro e w17 ⟨rfl, hw⟩
              obtain rfl := hw.symm
              clear hw
              go_wp2_with fail
              refine HGT.out.mono ?_
              rintro e w18 ⟨rfl, b18⟩
              have HB18 := hid b18
              clear b18
              go_wp2_with fail
              refine (HVL.out _ HB18.out).mono ?_
              rintro e w19 ⟨rfl, hw⟩
              obtain rfl := hw.symm
              clear hw
              go_wp2_with fail
              refine (HDP.out _ HB18.out).mono ?_
              rintro e w20 ⟨rfl, q20, t20⟩
              have HQ20 := hid q20
              have HB20 : Hid (Below w2.heap.size w2 w20) := t20.below (HBX.out.trans (HB18.out.mono HBX.out.size)) (Nat.le_trans HBX.out.size HB18.out.size) HN4.out
              clear q20 t20 HDP
              go_wp2_with fail
              refine (kat_kept HQ20.out).mono ?_
              rintro e w21 ⟨rfl, hw⟩
              obtain rfl := hw.symm
              clear hw
              go_wp2_with fail
              refine (kat_lost HQ20.out (fun q hq => by simp at hq) kx).mono ?_
              rintro e w22 ⟨rfl, b22⟩
              have HB22 : Hid (Below w2.heap.size w2 w22) := HB20.out.trans (b22.mono HB20.out.size)
              clear b22
              go_wp2_with fail
              go_ret
              exact ⟨by simp, HB2.out.trans (HB22.out.mono HB2.out.size)⟩
end Go.Proofs.YtbmohenjphmlgaaGreat

/- A row of texts that was handed in, opened. -/
namespace Go.Proofs.YtbmohenjphmlgaaGreat
open Go.RowKit
open Go.ChangeShapes Go.WideShapes Go.ChangeAt Go.Joins
set_option maxRecDepth 100000

theorem cellsText2 : Tryz.prog.cellsOf 9 = 1 := by kernel_rfl

theorem open_texts2 {Hd : Type} {enc : TypeId × Value → Hd} {W : World} {r : Reach} {b0 : Nat} {sp : Nat → Bool} {v : Value} {d : DataW Hd} {ps : List MemPlace} (hval : Value.okWide Tryz.prog W r b0 28 v)
    (hd : DataW.Trod enc Tryz.prog W 0 sp true 28 v d ps) : ∃ a cap ss, v = .slice a ss.length cap ∧ SRd W.heap.size W a ss ∧ ss.length ≤ cap := by
  obtain ⟨a0, len, cap, rfl⟩ := okWide_slice Tryz.underlying28 hval
  obtain ⟨fuel, hf⟩ := hd
  rcases open_strings Tryz.underlying28 Tryz.underlying9 cellsText2 hf with ⟨hcs, hx⟩ | ⟨a, len', cap', ss, hcs, _, hl, hm, hz, hx, hcell, hsz⟩
  · simp [Value.cells] at hcs
    obtain ⟨rfl, rfl, rfl⟩ := hcs
    exact ⟨none, 0, [], rfl, fun i h => (by simp at h), Nat.zero_le _⟩
  · simp [Value.cells] at hcs
    obtain ⟨rfl, rfl, rfl⟩ := hcs
    have hlen : len ≤ ss.length := by rw [hz]; split <;> omega
    have hlt : (ss.take len).length = len := by simp; omega
    refine ⟨some a, cap, ss.take len, by rw [hlt], ?_, by rw [hlt]; exact hl⟩
    intro i hi
    have hi' : i < len := by omega
    have hc := hcell i (by omega)
    have hsp := World.cell?_spot (hcell 0 (by omega))
    obtain ⟨ab, ao, asp⟩ := a
    simp [Addr.add] at hsp
    subst hsp
    rw [Go.WideShapes.add_plain] at hc
    refine ⟨ab, ao, rfl, World.block_lt_of_cell? W _ hc, ?_⟩
    rw [hc, List.getElem_take]
    simp [List.getD_eq_getElem?_getD, List.getElem?_eq_getElem (show i < ss.length by omega)]
end Go.Proofs.YtbmohenjphmlgaaGreat

/- A row of pairs that was handed in, opened. -/
namespace Go.Proofs.YtbmohenjphmlgaaGreat
open Go.ChangeShapes Go.WideShapes Go.ChangeAt Go.RowKit
set_option maxRecDepth 100000

theorem open_apairs {H : Type} {enc : TypeId × Value → H} {W : World} {r : Reach} {b0 : Nat} {sp : Nat → Bool} {v : Value} {d : DataW H} {ps : List MemPlace} (hval : Value.okWide Tryz.prog W r b0 27 v)
    (hd : DataW.Trod enc Tryz.prog W 0 sp true 27 v d ps) : ∃ a cap l, v = .slice a l.length cap ∧ PRd W.heap.size W a l ∧ l.length ≤ maxLen := by
  obtain ⟨a, len, cap, rfl⟩ := okWide_slice Tryz.underlying27 hval
  obtain ⟨fuel, hf⟩ := hd
  rcases Go.Deep.open_slice_pairs Tryz.underlying27 Tryz.underlying67 (by kernel_rfl) rfl rfl (by kernel_rfl) (by kernel_rfl) hf with ⟨h0, _⟩ | ⟨a', len', cap', m, n, V0, V1, D0, D1, P0, P1, h0, _, hl, hm, hmm, _, hc⟩
  · simp only [Value.cells, List.cons.injEq, and_true, Value.slice.injEq] at h0
    obtain ⟨rfl, rfl, rfl⟩ := h0
    exact ⟨none, 0, [], rfl, fun i hi => by simp at hi, Nat.zero_le _⟩
  · simp only [Value.cells, List.cons.injEq, and_true, Value.slice.injEq] at h0
    obtain ⟨rfl, rfl, rfl⟩ := h0
    have hlm : len ≤ m := by rw [hmm]; split <;> omega
    have str : ∀ i, i < len → ∃ s0 s1 : ByteArray, V0 i = .string s0 ∧ V1 i = .string s1 := by
      intro i hi
      obtain ⟨_, _, t0, t1⟩ := hc i (by omega)
      obtain ⟨s0, e0, _⟩ := DataW.trod_string Tryz.underlying9 t0
      obtain ⟨s1, e1, _⟩ := DataW.trod_string Tryz.underlying9 t1
      simp only [List.cons.injEq, and_true] at e0 e1
      exact ⟨s0, s1, e0, e1⟩
    let f : Nat → ByteArray × ByteArray := fun i => ((match V0 i with | .string s => s | _ => ⟨#[]⟩), (match V1 i with | .string s => s | _ => ⟨#[]⟩))
    refine ⟨some a', cap, (List.range len).map f, by rw [List.length_map, List.length_range], fun i hi => ?_, by rw [List.length_map, List.length_range]; omega⟩
    rw [List.length_map, List.length_range] at hi
    obtain ⟨c0, c1, _, _⟩ := hc i (by omega)
    obtain ⟨s0, s1, e0, e1⟩ := str i hi
    obtain ⟨b, off, spot⟩ := a'
    have hspot : spot = none := by simpa [Addr.add] using World.cell?_spot (hc 0 (by omega)).1
    subst hspot
    rw [Go.WideShapes.add_plain] at c0 c1
    refine ⟨b, off, rfl, World.block_lt_of_cell? W _ c0, ?_, ?_⟩
    · rw [c0, List.getElem_map, List.getElem_range]; simp only [f, e0]
    · rw [show off + i * 2 + 1 = off + (i * 2 + 1) by omega, c1, List.getElem_map, List.getElem_range]; simp only [f, e1]

end Go.Proofs.YtbmohenjphmlgaaGreat
