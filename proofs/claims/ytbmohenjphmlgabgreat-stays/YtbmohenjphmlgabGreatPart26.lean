/- Part 26 of a proof: what the last text needs. -/
import Derived.Test.YtbmohenjphmlgabGreatPart20
import Derived.Test.YtbmohenjphmlgabGreatPart23
import Derived.Test.YtbmohenjphmlgabGreatPart25
import Derived.Test.YtbmohenjphmlgabGreatPart24
import Derived.Test.YtbmohenjphmlgabGreatRows
import Derived.Test.YtbmohenjphmlgabGreatPart14
import Derived.ProofKit
import Derived.OpenShut
import Derived.ShutString
import Derived.ChangeOld
import Derived.JoinedCond
import Derived.Lib.SmallJoins
import Derived.SliceStrings
import Derived.Test.YtbmohenjphmlgabGreatPart5
import Derived.Carry
import Derived.Deep.SlicePairs
/- Texts that can be read are appended to a row of texts of a call's own: for a walk. -/
namespace Go.Proofs.YtbmohenjphmlgabGreat
open Go.RowKit
set_option maxRecDepth 100000

theorem srd_cells {w : World} {l : List ByteArray} {B : Nat} {p : Addr} (h : SRd B w (some p) l) : ∀ j u, (tcells l)[j]? = some u → w.cell? (p.add j) = some u := by
  intro j u hu
  have hj : j < l.length := by rw [← tcells_len]; exact (List.getElem?_eq_some_iff.1 hu).1
  obtain ⟨b, off, e, _, c0⟩ := h j hj
  cases e
  have hadd : (⟨b, off, none⟩ : Addr).add j = ⟨b, off + j, none⟩ := by unfold Addr.add; split <;> simp_all
  rw [hadd]
  rw [tcells_at l j hj] at hu
  cases hu
  exact c0

theorem wpList_append_texts {ops : Array Oper} {rest : List Oper} {o : Oper} {act : Act} {Q : Exit → Act → World → Prop} (w : World) (hgd : o.guard = none) (s x : Operand)
    (hop : o.op = .call { callee := .builtin .append, args := #[s, x], argTypes := #[23, 23] })
    (base B : Nat) (v1 : Value) (a2 : Option Addr) (c2 : Nat) (l1 l2 : List ByteArray) (hs : act.eval s = v1) (hx : act.eval x = .slice a2 l2.length c2) (h1 : TOwn w base v1 l1) (h2 : SRd B w a2 l2) (hn : a2 = none → l2.length = 0 ∧ c2 = 0) (hlen : l1.length + l2.length ≤ 1000000) (hbase : base ≤ w.heap.size)
    (h : ∀ v' w', TOwn w' base v' (l1 ++ l2) → w.grownBy w' v1.ownBlock → Newer w v1 v' → wpList Tryz.prog ops Q rest (act.put o.dst v') w') :
    wpList Tryz.prog ops Q (o :: rest) act w := by
  obtain ⟨i0, hi, hz0, hz1, hz2⟩ := info_parts infoText
  cases a2 with
  | none =>
    obtain ⟨e1, e2⟩ := hn rfl
    obtain rfl : l2 = [] := List.eq_nil_of_length_eq_zero e1
    subst e2
    refine wpList_plain hgd fun K hK => ?_
    have hr := run_append_owned_none (P := Tryz.prog) w base 23 o.type 9 i0 1 Tryz.underlying23 hi v1 _ _ h1
    unfold Oper.wp execOp
    simp only [hop, resolve, invoke, builtin, Sem.run_bind, Sem.run_pure, Result.andThen_ok, List.map_toArray, List.map_cons, List.map_nil, hs, hx, List.length_nil, hr]
    exact hK _ _ (h v1 w (by rw [List.append_nil]; exact h1) (World.grownBy.refl _ _) (.inl rfl))
  | some p =>
    refine wpList_append_mine w hgd s x 23 hop base 9 i0 _ 1 16 Tryz.underlying23 hi hz0 hz1 hz2 rfl (by decide) v1 l1.length (tcells l1) hs h1 p l2.length c2 (tcells l2) hx (by rw [tcells_len, Nat.mul_one]) (srd_cells h2) (tcells_one l2) (by unfold maxLen; omega) (by omega) hbase ?_
    intro v' w' ho hg hn
    refine h v' w' ?_ hg hn
    unfold TOwn
    rw [List.length_append, show tcells (l1 ++ l2) = tcells l1 ++ tcells l2 by simp [tcells]]
    exact ho

theorem town_none {w : World} {b : Nat} {n cap : Nat} {a : Option Addr} {l : List ByteArray} (h : TOwn w b (.slice a n cap) l) : a = none → l.length = 0 ∧ cap = 0 := by
  intro ha
  rcases h.2 with ⟨hv, h0⟩ | ⟨g, cap', cur, hv, _⟩
  · simp only [Value.slice.injEq] at hv; exact ⟨h0, hv.2.2⟩
  · simp only [Value.slice.injEq] at hv; rw [ha] at hv; cases hv.1

theorem srd_take {B : Nat} {w : World} {a : Option Addr} {l : List ByteArray} (h : SRd B w a l) (i : Nat) : SRd B w a (l.take i) := by
  intro j hj
  obtain ⟨b, off, h1, h2, h3⟩ := h j (by rw [List.length_take] at hj; omega)
  exact ⟨b, off, h1, h2, by rw [List.getElem_take]; exact h3⟩

theorem srd_lone {w : World} (s : ByteArray) (O : TypeId) : SRd (w.heap.size + 1) (w.alloc (.cells #[.string s] O)) (some ⟨w.heap.size, 0, none⟩) [s] := by
  intro i hi
  have hi1 : i < 1 := hi
  obtain rfl : i = 0 := by omega
  exact ⟨w.heap.size, 0, rfl, by omega, cell_of_row _ _ 0 _ _ _ (heap_alloc_new w _)⟩
end Go.Proofs.YtbmohenjphmlgabGreat

/- What Get tells of what is known (of the program's keeper). -/
namespace Go.Proofs.YtbmohenjphmlgabGreat
open Go.RowKit
set_option maxRecDepth 100000

theorem nil_pointer (w : World) (k0 : Nat) : (binOp .eql 31 (.pointer (some ⟨k0, 0, none⟩)) (.pointer none)).run Tryz.prog w = .ok (.bool false) w := by rfl

theorem get_is {own : Nat → Prop} {w : World} {k0 : Nat} {l : List (Int × ByteArray)} {S : List (List UInt8)} (h : KAt own w k0 l S) {x : Int} {r : ByteArray} (hx : (x, r) ∈ l) (key V : ByteArray) (ht : Tr.tell S r.data.toList key.data.toList = (V.data.toList, !V.data.toList.isEmpty, 0)) :
    Calls Tryz.prog 17 #[.pointer (some ⟨k0, 0, none⟩), .int .i64 x, .string key] w fun e w' => e = .returned (.tuple #[.string V, .bool (!(V.toList == [])), .int .i64 0]) ∧ Below w.heap.size w w' := by
  refine (kat_get h hx key).mono ?_
  rintro e w' ⟨s, b, n, rfl, ⟨N, rfl, hN⟩, hb⟩
  rw [ht] at hN
  simp only [Prod.mk.injEq] at hN
  obtain ⟨h1, rfl, rfl⟩ := hN
  obtain rfl := ba_ext.2 h1
  have e1 : (V.toList == []) = V.data.toList.isEmpty := by
    rw [ByteArray.toList_eq]
    cases V.data.toList <;> rfl
  rw [e1]
  exact ⟨rfl, hb⟩

theorem get_unknown {own : Nat → Prop} {w : World} {k0 : Nat} {l : List (Int × ByteArray)} {S : List (List UInt8)} (h : KAt own w k0 l S) {x : Int} {r : ByteArray} (hx : (x, r) ∈ l) (key : ByteArray) (ht : Tr.tell S r.data.toList key.data.toList = ([], false, 11)) :
    Calls Tryz.prog 17 #[.pointer (some ⟨k0, 0, none⟩), .int .i64 x, .string key] w fun e w' => e = .returned (.tuple #[.string ⟨#[]⟩, .bool false, .int .i64 11]) ∧ Below w.heap.size w w' := by
  refine (kat_get h hx key).mono ?_
  rintro e w' ⟨s, b, n, rfl, ⟨N, rfl, hN⟩, hb⟩
  rw [ht] at hN
  simp only [Prod.mk.injEq] at hN
  obtain ⟨h1, rfl, rfl⟩ := hN
  obtain rfl : (⟨#[]⟩ : ByteArray) = s := ba_ext.2 h1
  exact ⟨rfl, hb⟩

end Go.Proofs.YtbmohenjphmlgabGreat

/- The walk of Stays (of the statements). -/
namespace Go.Proofs.YtbmohenjphmlgabGreat
open Go.RowKit
set_option maxRecDepth 100000

theorem grown_below {w w' : World} (h : w.grownBy w' none) : Below w.heap.size w w' := ⟨h.os, h.tape, h.output, h.size, fun i hi => h.block i hi (by simp)⟩

/-- The second of two heads. -/
theorem two_heads {p : Nat} {Ra Rb : ByteArray} (h1 : p ≤ [((1 : Int), Ra)].length) (h3 : ∀ i, (h : i < [((1 : Int), Ra)].length) → p ≤ i → (2 : Int) < [((1 : Int), Ra)][i].1) : [((1 : Int), Ra)].take p ++ (2, Rb) :: [((1 : Int), Ra)].drop p = [(1, Ra), (2, Rb)] := by
  have h1' : p ≤ 1 := h1
  rcases Nat.lt_or_ge p 1 with h | h
  · obtain rfl : p = 0 := by omega
    have := h3 0 (by simp) (Nat.le_refl _)
    simp at this
  · obtain rfl : p = 1 := by omega
    rfl

set_option maxHeartbeats 12800000 in
theorem stays_any (a : Option Addr) (cap : Nat) (raw : List (ByteArray × ByteArray)) (key v : ByteArray) (ka : Option Addr) (kcap : Nat) (keys : List ByteArray) (w : World) (hr : PRd w.heap.size w a raw) (hl : raw.length ≤ maxLen) (hk : SRd w.heap.size w ka keys) (hkc : keys.length ≤ kcap) :
    Calls Tryz.prog 3 #[.slice a raw.length cap, .string key, .string v, .slice ka keys.length kcap] w fun e w' => e = .returned (.bool true) ∧ Below w.heap.size w w' := by
  have HT := hid (table_any a cap raw w hr hl)
  have HFN := hid (tableB_fine raw)
  have HLN := hid (tableB_len raw)
  have HRT := hid (fun a cap l w h hf => root_fine a cap l w h hf)
  have HSH := hid (fun s w => shortG_any s 6 w (by decide))
  have HS40 := hid (fun s w => shortG_any s 40 w (by decide))
  have HFW := hid (fun w => few_any ka kcap 6 keys w (by decide) hkc)
  have HK8 := hid (srd_take hk 6)
  have HKL : Hid ((keys.take 6).length ≤ 6) := by rw [Hid, List.length_take]; omega
  clear hr hl hk hkc
  go_enter Tryz.func3, Tryz.ntmps3
  go_wp2_with fail
  refine HT.out.mono ?_
  rintro e w1 ⟨v1, rfl, o1, b1⟩
  obtain ⟨a1, c1, hv1, hc1⟩ := aown_shape o1
  subst hv1
  have HO1 := hid o1
  have HB1 := hid b1
  have HN1 : Hid (a1 = none → (tableB raw).length = 0 ∧ c1 = 0) := by
    intro ha
    rcases o1.2 with ⟨hv, h0⟩ | ⟨g, cap', cur, hv, _⟩
    · simp only [Value.slice.injEq] at hv; exact ⟨h0, hv.2.2⟩
    · simp only [Value.slice.injEq] at hv; rw [ha] at hv; cases hv.1
  clear o1 b1 HT
  generalize tableB raw = L at *
  have hL30 : L.length ≤ 30 := HLN.out
  go_wp2_with (at_builtin; refine wpList_append_apairs _ rfl (.tmp 39) (.tmp 40) rfl w1.heap.size w1.heap.size (.slice none 0 0) a1 c1 [] L rfl rfl (aown_nil _ _) (aown_rd HO1.out) HN1.out (by simp; omega) (Nat.le_refl _) ?_; intro v2 w2 ho2 hg2 hn2; have HO2 := hid ho2; have HB2 := hid (grown_below hg2); clear ho2 hg2 hn2)
  obtain ⟨a2, c2, hv2, _⟩ := aown_shape HO2.out
  subst hv2
  rw [List.nil_append] at HO2
  rw [List.nil_append]
  refine (HSH.out _ _).mono ?_
  rintro e w2' ⟨rfl, hw⟩
  obtain rfl := hw.symm
  clear hw
  go_wp2_with fail
  refine (HS40.out _ _).mono ?_
  rintro e w2' ⟨rfl, hw⟩
  obtain rfl := hw.symm
  clear hw
  have HFM := hid (moreFine HFN.out hL30 key v)
  have HLE : Hid (L.length ≤ 1000000) := by rw [Hid]; omega
  go_wp2_with (at_builtin; refine wpList_push_apair rfl (.tmp 42) (.tmp 48) rfl (shortB key 6, shortB v 40) w2.heap.size rfl rfl rfl HO2.out (Below.refl _ _) HB2.out (Nat.le_refl _) HLE.out ?_; intro v3 w3 ho3 hb3; have HO3 := hid ho3; have HB3 := hid hb3; clear ho3 hb3)
  obtain ⟨a3, c3, hv3, _⟩ := aown_shape HO3.out
  subst hv3
  have hM31 : (L ++ [(shortB key 6, shortB v 40)]).length ≤ 31 := by rw [List.length_append, List.length_singleton]; omega
  generalize L ++ [(shortB key 6, shortB v 40)] = M at *
  clear HO2 HB2 HLE HS40
  refine (HRT.out _ _ _ _ (((aown_rd HO1.out).later HB3.out).wider HB3.out.size) HFN.out).mono ?_
  rintro e w4 ⟨rfl, b4⟩
  have HB4 : Hid (Below w1.heap.size w1 w4) := HB3.out.trans (b4.mono HB3.out.size)
  have HO4 := hid (aown_later HO3.out b4)
  clear b4 HB3 HO3
  obtain ⟨Ra, hRa⟩ : ∃ R, R = rootB L := ⟨_, rfl⟩
  have HRA : Hid (Ra = rootB L) := hRa
  rw [← hRa]
  clear hRa
  go_wp2_with fail
  refine (HRT.out _ _ _ _ (aown_rd HO4.out) HFM.out).mono ?_
  rintro e w5 ⟨rfl, b5⟩
  have HB5 : Hid (Below w1.heap.size w1 w5) := HB4.out.trans (b5.mono HB4.out.size)
  have HM5 : Hid (PRd w5.heap.size w5 a3 M) := aown_rd (aown_later HO4.out b5)
  have HL5 : Hid (PRd w5.heap.size w5 a1 L) := ((aown_rd HO1.out).later HB5.out).wider HB5.out.size
  have HBW5 : Hid (Below w.heap.size w w5) := HB1.out.trans (HB5.out.mono HB1.out.size)
  clear b5 HB4 HO4 HB5 HO1 HB1 HRT
  obtain ⟨Rb, hRb⟩ : ∃ R, R = rootB M := ⟨_, rfl⟩
  have HRB : Hid (Rb = rootB M) := hRb
  rw [← hRb]
  clear hRb
  have HA8 : Hid (Ra.size = 8) := by rw [Hid, HRA.out]; exact rootB_size L
  have HB8 : Hid (Rb.size = 8) := by rw [Hid, HRB.out]; exact rootB_size M
  go_wp2_with fail
  refine (kat_open w5).mono ?_
  rintro e w6 ⟨k0, own0, rfl, q6, n6, b6⟩
  have HQ6 := hid q6
  have HN6 := hid n6
  have HB6 := hid b6
  have hnil := fun w => nil_pointer w k0
  clear q6 n6 b6
  go_wp2_with fail
  refine (kat_trust HQ6.out 1 Ra (by decide) (by decide) HA8.out (by simp) (fun q hq => by simp at hq) (insert_nil 1 Ra)).mono ?_
  rintro e w7 ⟨rfl, own1, p7, p7l, _, _, q7, n7, t7⟩
  have HQ7 : Hid (KAt own1 w7 k0 [(1, Ra)] []) := by
    obtain rfl : p7 = 0 := by simpa using p7l
    exact q7
  have HN7 : Hid (∀ k, own1 k → w5.heap.size ≤ k) := fun k hk => by
    rcases n7 k hk with h | h
    · exact HN6.out k h
    · exact Nat.le_trans HB6.out.size h
  have HB7 : Hid (Below w5.heap.size w5 w7) := t7.below HB6.out HB6.out.size HN6.out
  clear q7 n7 t7 HQ6 HN6 HB6 p7l
  go_wp2_with fail
  refine (kat_trust HQ7.out 2 Rb (by decide) (by decide) HB8.out (by simp) (fun q hq => by rw [List.mem_singleton.1 hq]; simp) (insert_end _ 2 Rb (by simp) (fun q hq => by rw [List.mem_singleton.1 hq]; simp))).mono ?_
  rintro e w8 ⟨rfl, own, p8, p8l, _, p83, q8, n8, t8⟩
  rw [two_heads p8l p83] at q8
  have HQ8 := hid q8
  have HN8 : Hid (∀ k, own k → w5.heap.size ≤ k) := fun k hk => by
    rcases n8 k hk with h | h
    · exact HN7.out k h
    · exact Nat.le_trans HB7.out.size h
  have HB8' : Hid (Below w5.heap.size w5 w8) := t8.below HB7.out HB7.out.size HN7.out
  clear q8 n8 t8 HQ7 HN7 HB7 p8l p83
  go_wp2_with fail
  refine (HFW.out _).mono ?_
  rintro e w8x ⟨rfl, hw⟩
  obtain rfl := hw.symm
  clear hw HFW
  have HK5 : Hid (SRd w5.heap.size w5 ka (keys.take 6)) := (HK8.out.later HBW5.out).wider HBW5.out.size
  generalize keys.take 6 = K at *
  have hK6 : K.length ≤ 6 := HKL.out
  clear HK8 HKL
  go_wp2_with fail
  refine (proofs_any a1 c1 L ka kcap K w8 ((HL5.out.later HB8'.out).wider HB8'.out.size) HFN.out ((HK5.out.later HB8'.out).wider HB8'.out.size) (by omega)).mono ?_
  rintro e w9 ⟨v9, rfl, o9, b9⟩
  obtain ⟨a9, c9, hv9, _⟩ := town_shape o9
  subst hv9
  have HO9 := hid o9
  have HB9 := hid b9
  have HAL : Hid ((allB L K).length ≤ 84) := by have := allB_len HFN.out K; rw [Hid]; omega
  clear o9 b9
  generalize hA : allB L K = A at *
  have HA := hid hA
  clear hA
  go_wp2_with (at_builtin; refine wpList_append_texts _ rfl (.tmp 85) (.tmp 88) rfl w8.heap.size w9.heap.size (.slice none 0 0) a9 c9 [] A rfl rfl (town_nil _ _) (town_rd HO9.out) (town_none HO9.out) (by have := HAL.out; simp; omega) HB9.out.size ?_; intro v10 w10 ho10 hg10 hn10; have HO10 := hid ho10; have HG10 := hid (grown_below hg10); clear ho10 hg10 hn10)
  obtain ⟨a10, c10, hv10, _⟩ := town_shape HO10.out
  subst hv10
  rw [List.nil_append] at HO10
  rw [List.nil_append]
  have HB10 : Hid (Below w8.heap.size w8 w10) := HB9.out.trans (HG10.out.mono HB9.out.size)
  have HB10' : Hid (Below w5.heap.size w5 w10) := HB8'.out.trans (HB10.out.mono HB8'.out.size)
  clear HG10 HB9 HO9
  refine (proofs_any a3 c3 M ka kcap K w10 ((HM5.out.later HB10'.out).wider HB10'.out.size) HFM.out ((HK5.out.later HB10'.out).wider HB10'.out.size) (by omega)).mono ?_
  rintro e w11 ⟨v11, rfl, o11, b11⟩
  obtain ⟨a11, c11, hv11, _⟩ := town_shape o11
  subst hv11
  have HO11 := hid o11
  have HB11 : Hid (Below w8.heap.size w8 w11) := HB10.out.trans (b11.mono HB10.out.size)
  have HO10' := hid (town_later HO10.out b11)
  have HCL : Hid ((allB M K).length ≤ 84) := by have := allB_len HFM.out K; rw [Hid]; omega
  clear o11 b11 HO10 HB10 HB10'
  generalize hC : allB M K = C at *
  have HC := hid hC
  clear hC
  go_wp2_with (at_builtin; refine wpList_append_texts _ rfl (.tmp 90) (.tmp 93) rfl w8.heap.size w11.heap.size (.slice a10 A.length c10) a11 c11 A C rfl rfl HO10'.out (town_rd HO11.out) (town_none HO11.out) (by have := HAL.out; have := HCL.out; omega) HB11.out.size ?_; intro v12 w12 ho12 hg12 hn12; have HO12 := hid ho12; have HG12 := hid hg12; clear ho12 hg12 hn12)
  obtain ⟨a12, c12, hv12, _⟩ := town_shape HO12.out
  subst hv12
  have HB12 : Hid (Below w8.heap.size w8 w12) := HB11.out.grown HG12.out HB11.out.size (fun g hg => (town_lt HO10'.out g hg).1)
  have HLW : Hid ((A ++ C).length ≤ 1000000) := by rw [Hid, List.length_append]; have := HAL.out; have := HCL.out; omega
  have HZW : Hid (∀ s ∈ A ++ C, s.size ≤ 1000000000) := by
    intro s hs
    rcases List.mem_append.1 hs with h | h
    · rw [← HA.out] at h
      obtain ⟨k, _, hp⟩ := allB_mem.1 h
      exact Nat.le_trans (proofB_small HFN.out _ s hp) (by decide)
    · rw [← HC.out] at h
      obtain ⟨k, _, hp⟩ := allB_mem.1 h
      exact Nat.le_trans (proofB_small HFM.out _ s hp) (by decide)
  have HMT := hid (meet_any a12 c12 (A ++ C) w12 (town_rd HO12.out) HLW.out HZW.out)
  clear HG12 HO11 HO10' HB11 HLW HZW HO12
  generalize hWD : A ++ C = WD at *
  have HWD := hid hWD
  clear hWD
  refine HMT.out.mono ?_
  rintro e w13 ⟨same, rfl, hsame, b13⟩
  have HB13 : Hid (Below w8.heap.size w8 w13) := HB12.out.trans (b13.mono HB12.out.size)
  have HSM := hid hsame
  clear hsame b13 HMT HB12
  have HB13' : Hid (Below w5.heap.size w5 w13) := HB8'.out.trans (HB13.out.mono HB8'.out.size)
  cases same with
  | true =>
    go_wp2_with fail
    go_ret
    exact ⟨rfl, HBW5.out.trans (HB13'.out.mono HBW5.out.size)⟩
  | false =>
    have HAP : Hid (Apart2 WD) := not_meets (HSM.out rfl)
    have HQ13 := hid (kat_later HQ8.out HB13.out)
    clear HSM HQ8 HB13 HB8'
    go_wp2_with fail
    go_loopw [20] (fun i wr => ∃ m : Nat, i = .int .i64 m ∧ m ≤ K.length ∧ Hid (KAt own wr k0 [(1, Ra), (2, Rb)] (staysS L M (K.take m)) ∧ Below w5.heap.size w5 wr)) (fun i _ => K.length - (intOf i).toNat)
    case atStart => exact ⟨0, rfl, Nat.zero_le _, HQ13.out, HB13'.out⟩
    case round =>
      obtain ⟨m, rfl, hm, HH⟩ := hrel
      by_cases hlt : m < K.length
      · obtain ⟨b, off, rfl, hb, e0⟩ := HK5.out m hlt
        have f0 := (HH.out.2.cell (p := ⟨b, off + m, none⟩) hb).trans e0
        have i1 : (0 : Int) ≤ (m : Int) := by omega
        have i2 : (m : Int) < (K.length : Int) := by omega
        have HLM : Hid ((staysS L M (K.take m)).length ≤ 168) := by
          have h1 := stays_len HFN.out HFM.out (K.take m)
          have h2 : (K.take m).length ≤ 6 := by rw [List.length_take]; omega
          rw [Hid]; omega
        have HLM1 : Hid ((Tr.addAll (staysS L M (K.take m)) (bl (proofB L (shortB K[m] 6)))).length ≤ 186) := by
          have h1 := stays_len HFN.out HFM.out (K.take m)
          have h2 : (K.take m).length ≤ 5 := by rw [List.length_take]; omega
          have h3 := Tr.addAll_len (bl (proofB L (shortB K[m] 6))) (staysS L M (K.take m))
          have h4 := proofB_len HFN.out (shortB K[m] 6)
          rw [bl_len] at h3
          rw [Hid]; omega
        have HOF1 : Hid (offerTo (staysS L M (K.take m)) Ra.data.toList (shortB K[m] 6).data.toList (bl (proofB L (shortB K[m] 6))) = (0, Tr.addAll (staysS L M (K.take m)) (bl (proofB L (shortB K[m] 6))))) := by
          rw [Hid, HRA.out]
          exact offer_proved HFN.out (shortB_size _ _) (Nat.le_trans HLM.out (by decide))
        have HOF2 : Hid (offerTo (Tr.addAll (staysS L M (K.take m)) (bl (proofB L (shortB K[m] 6)))) Rb.data.toList (shortB K[m] 6).data.toList (bl (proofB M (shortB K[m] 6))) = (0, staysS L M (K.take (m + 1)))) := by
          rw [Hid, HRB.out, offer_proved HFM.out (shortB_size _ _) HLM1.out, List.take_succ_eq_append_getElem hlt, stays_snoc]
        have HPL := hid (prove_fine a1 c1 L (shortB K[m] 6) wr ((HL5.out.later HH.out.2).wider HH.out.2.size) HFN.out (shortB_size _ _))
        have HPM := hid (fun W (hW : Below wr.heap.size wr W) => prove_fine a3 c3 M (shortB K[m] 6) W ((HM5.out.later (HH.out.2.trans (hW.mono HH.out.2.size))).wider (Nat.le_trans HH.out.2.size hW.size)) HFM.out (shortB_size _ _))
        have HSHm := hid (fun w => HSH.out K[m] w)
        have HK1 := hid (fun W (hW : Below wr.heap.size wr W) pa pc (hp : SRd W.heap.size W pa (proofB L (shortB K[m] 6))) => kat_offer (kat_later HH.out.1 hW) (List.mem_cons_self .. : ((1 : Int), Ra) ∈ [(1, Ra), (2, Rb)]) (shortB K[m] 6) pa pc (proofB L (shortB K[m] 6)) hp)
        rw [HOF1.out] at HK1
        have HK2 := hid (fun W (hW : KAt own W k0 [(1, Ra), (2, Rb)] (Tr.addAll (staysS L M (K.take m)) (bl (proofB L (shortB K[m] 6))))) pa pc (hp : SRd W.heap.size W pa (proofB M (shortB K[m] 6))) => kat_offer hW (by simp : ((2 : Int), Rb) ∈ [(1, Ra), (2, Rb)]) (shortB K[m] 6) pa pc (proofB M (shortB K[m] 6)) hp)
        rw [HOF2.out] at HK2
        have HOL := hid (kat_lt HH.out.1)
        clear e0 HLM HLM1 HOF1 HOF2 HSH
        generalize Tr.addAll (staysS L M (K.take m)) (bl (proofB L (shortB K[m] 6))) = S1 at *
        generalize shortB K[m] 6 = km at *
        generalize K[m] = kr at *
        go_wp2_with fail
        refine (HSHm.out _).mono ?_
        rintro e w14 ⟨rfl, hw⟩
        obtain rfl := hw.symm
        clear hw
        go_wp2_with fail
        refine HPL.out.mono ?_
        rintro e wA ⟨rA, rfl, oA, bA⟩
        obtain ⟨pa, pc, hv, _⟩ := town_shape oA
        subst hv
        have HOA := hid oA
        have HBA := hid bA
        clear oA bA f0
        go_wp2_with fail
        refine (HPM.out _ HBA.out).mono ?_
        rintro e wB ⟨rB, rfl, oB, bB⟩
        obtain ⟨qa, qc, hv, _⟩ := town_shape oB
        subst hv
        have HOB := hid oB
        have HBB : Hid (Below wr.heap.size wr wB) := HBA.out.trans (bB.mono HBA.out.size)
        have HOA' := hid (town_later HOA.out bB)
        clear oB bB HOA
        go_wp2_with fail
        refine (HK1.out _ HBB.out _ _ (town_rd HOA'.out)).mono ?_
        rintro e wC ⟨rfl, qC, tC⟩
        have HQC := hid qC
        have HOC : Hid (TOwn wC wA.heap.size (.slice qa (proofB M km).length qc) (proofB M km)) := town_frame HOB.out (fun g hg => tC.block g (town_lt HOB.out g hg).2 (fun ho => by
          have := HOL.out g ho
          have := (town_lt HOB.out g hg).1
          have := HBA.out.size
          omega))
        have HBC : Hid (Below w5.heap.size w5 wC) := tC.below (HH.out.2.trans (HBB.out.mono HH.out.2.size)) (Nat.le_trans HH.out.2.size HBB.out.size) HN8.out
        clear qC tC HOB HBB HOA'
        go_wp2_with fail
        refine (HK2.out _ HQC.out _ _ (town_rd HOC.out)).mono ?_
        rintro e wD ⟨rfl, qD, tD⟩
        have HQD := hid qD
        have HBD : Hid (Below w5.heap.size w5 wD) := tD.below HBC.out HBC.out.size HN8.out
        clear qD tD
        go_wp2_with fail
        exact ⟨⟨m + 1, by go_num, by omega, HQD.out, HBD.out⟩, by simp [intOf]; omega⟩
      · obtain rfl : m = K.length := by omega
        have i2 : ¬ (K.length : Int) < (K.length : Int) := by omega
        rw [List.take_length] at HH
        have HFD := hid (fun k hk => stays_found (L := L) (M := M) (ks := K) (k := k) HAP.out (fun y hy => by rw [← HWD.out, ← HA.out]; exact List.mem_append_left _ hy) (fun y hy => by rw [← HWD.out, ← HC.out]; exact List.mem_append_right _ hy) hk)
        have HLO := hid (stays_lone L M K)
        have HSL : Hid ((staysS L M K).length ≤ 1000) := by have := stays_len HFN.out HFM.out K; rw [Hid]; omega
        have HQE := hid HH.out.1
        have HBE := hid HH.out.2
        clear HH hlt HQ13 HB13'
        generalize staysS L M K = S at *
        go_wp2_with fail
        refine (kat_kept HQE.out).mono ?_
        rintro e w15 ⟨rfl, hw⟩
        obtain rfl := hw.symm
        clear hw
        go_wp2_with fail
        refine (kat_drop (p := 0) HQE.out (by simp) rfl (fun _ r k2 k3 F hne => reach_all k2 k3 r S F (.inr rfl) hne HSL.out)).mono ?_
        rintro e w16 ⟨rfl, q16, t16⟩
        have HQ16 : Hid (KAt own w16 k0 [(2, Rb)] (reachedFrom S [Rb])) := q16
        have HB16 : Hid (Below w5.heap.size w5 w16) := t16.below HBE.out HBE.out.size HN8.out
        have HLE : Hid ((reachedFrom S [Rb]).length ≤ S.length) := reached_len S [Rb]
        clear q16 t16 HQE HBE
        go_wp2_with fail
        go_loopw [30] (fun i wx => ∃ m : Nat, i = .int .i64 m ∧ m ≤ K.length ∧ Hid (Below w16.heap.size w16 wx)) (fun i _ => K.length - (intOf i).toNat)
        case atStart => exact ⟨0, rfl, Nat.zero_le _, Below.refl _ _⟩
        case round =>
          obtain ⟨m, rfl, hm, HH⟩ := hrel
          have HBX : Hid (Below w5.heap.size w5 wr) := HB16.out.trans (HH.out.mono HB16.out.size)
          by_cases hlt : m < K.length
          · obtain ⟨b, off, rfl, hb, e0⟩ := HK5.out m hlt
            have f0 := (HBX.out.cell (p := ⟨b, off + m, none⟩) hb).trans e0
            have i1 : (0 : Int) ≤ (m : Int) := by omega
            have i2 : (m : Int) < (K.length : Int) := by omega
            have HTL : Hid (Tr.tell (reachedFrom S [Rb]) Rb.data.toList (shortB K[m] 6).data.toList = ((valB M (shortB K[m] 6)).data.toList, !(valB M (shortB K[m] 6)).data.toList.isEmpty, 0)) := by
              rw [Hid, HRB.out]
              exact tell_proved HFM.out (shortB_size _ _) (stays_kept HFM.out HLO.out (HFD.out _ (List.getElem_mem hlt)))
            have HGT := hid (get_is (kat_later HQ16.out HH.out) (List.mem_singleton.2 rfl : ((2 : Int), Rb) ∈ [(2, Rb)]) (shortB K[m] 6) _ HTL.out)
            have HVL := hid (fun W (hW : Below wr.heap.size wr W) => value_any a3 c3 M (shortB K[m] 6) W ((HM5.out.later (HBX.out.trans (hW.mono HBX.out.size))).wider (Nat.le_trans HBX.out.size hW.size)) (by have := HFM.out.1; omega))
            have HSHm := hid (fun w => HSH.out K[m] w)
            clear e0 HTL HSH
            generalize valB M (shortB K[m] 6) = V at *
            generalize shortB K[m] 6 = km at *
            generalize K[m] = kr at *
            go_wp2_with fail
            refine (HSHm.out _).mono ?_
            rintro e w17 ⟨rfl, hw⟩
            obtain rfl := hw.symm
            clear hw
            go_wp2_with fail
            refine HGT.out.mono ?_
            rintro e w18 ⟨rfl, b18⟩
            have HB18 := hid b18
            clear b18
            go_wp2_with fail
            refine (HVL.out _ HB18.out).mono ?_
            rintro e w19 ⟨rfl, hw⟩
            obtain rfl := hw.symm
            clear hw
            go_wp2_with fail
            exact ⟨⟨m + 1, by go_num, by omega, HH.out.trans (HB18.out.mono HH.out.size)⟩, by simp [intOf]; omega⟩
          · obtain rfl : m = K.length := by omega
            have i2 : ¬ (K.length : Int) < (K.length : Int) := by omega
            have HQX := hid (kat_later HQ16.out HH.out)
            have i3 : ((reachedFrom S [Rb]).length : Int) ≤ (S.length : Int) := by have := HLE.out; omega
            clear hlt HH HQ16 HLE
            go_wp2_with fail
            refine (kat_kept HQX.out).mono ?_
            rintro e w20 ⟨rfl, hw⟩
            obtain rfl := hw.symm
            clear hw
            go_wp2_with fail
            go_ret
            exact ⟨by simp, HBW5.out.trans (HBX.out.mono HBW5.out.size)⟩
end Go.Proofs.YtbmohenjphmlgabGreat

/- A row of texts that was handed in, opened. -/
namespace Go.Proofs.YtbmohenjphmlgabGreat
open Go.RowKit
open Go.ChangeShapes Go.WideShapes Go.ChangeAt Go.Joins
set_option maxRecDepth 100000

theorem cellsText2 : Tryz.prog.cellsOf 9 = 1 := by kernel_rfl

theorem open_texts2 {Hd : Type} {enc : TypeId × Value → Hd} {W : World} {r : Reach} {b0 : Nat} {sp : Nat → Bool} {v : Value} {d : DataW Hd} {ps : List MemPlace} (hval : Value.okWide Tryz.prog W r b0 23 v)
    (hd : DataW.Trod enc Tryz.prog W 0 sp true 23 v d ps) : ∃ a cap ss, v = .slice a ss.length cap ∧ SRd W.heap.size W a ss ∧ ss.length ≤ cap := by
  obtain ⟨a0, len, cap, rfl⟩ := okWide_slice Tryz.underlying23 hval
  obtain ⟨fuel, hf⟩ := hd
  rcases open_strings Tryz.underlying23 Tryz.underlying9 cellsText2 hf with ⟨hcs, hx⟩ | ⟨a, len', cap', ss, hcs, _, hl, hm, hz, hx, hcell, hsz⟩
  · simp [Value.cells] at hcs
    obtain ⟨rfl, rfl, rfl⟩ := hcs
    exact ⟨none, 0, [], rfl, fun i h => (by simp at h), Nat.zero_le _⟩
  · simp [Value.cells] at hcs
    obtain ⟨rfl, rfl, rfl⟩ := hcs
    have hlen : len ≤ ss.length := by rw [hz]; split <;> omega
    have hlt : (ss.take len).length = len := by simp; omega
    refine ⟨some a, cap, ss.take len, by rw [hlt], ?_, by rw [hlt]; exact hl⟩
    intro i hi
    have hi' : i < len := by omega
    have hc := hcell i (by omega)
    have hsp := World.cell?_spot (hcell 0 (by omega))
    obtain ⟨ab, ao, asp⟩ := a
    simp [Addr.add] at hsp
    subst hsp
    rw [Go.WideShapes.add_plain] at hc
    refine ⟨ab, ao, rfl, World.block_lt_of_cell? W _ hc, ?_⟩
    rw [hc, List.getElem_take]
    simp [List.getD_eq_getElem?_getD, List.getElem?_eq_getElem (show i < ss.length by omega)]
end Go.Proofs.YtbmohenjphmlgabGreat

/- A row of pairs that was handed in, opened. -/
namespace Go.Proofs.YtbmohenjphmlgabGreat
open Go.ChangeShapes Go.WideShapes Go.ChangeAt Go.RowKit
set_option maxRecDepth 100000

theorem open_apairs {H : Type} {enc : TypeId × Value → H} {W : World} {r : Reach} {b0 : Nat} {sp : Nat → Bool} {v : Value} {d : DataW H} {ps : List MemPlace} (hval : Value.okWide Tryz.prog W r b0 22 v)
    (hd : DataW.Trod enc Tryz.prog W 0 sp true 22 v d ps) : ∃ a cap l, v = .slice a l.length cap ∧ PRd W.heap.size W a l ∧ l.length ≤ maxLen := by
  obtain ⟨a, len, cap, rfl⟩ := okWide_slice Tryz.underlying22 hval
  obtain ⟨fuel, hf⟩ := hd
  rcases Go.Deep.open_slice_pairs Tryz.underlying22 Tryz.underlying27 (by kernel_rfl) rfl rfl (by kernel_rfl) (by kernel_rfl) hf with ⟨h0, _⟩ | ⟨a', len', cap', m, n, V0, V1, D0, D1, P0, P1, h0, _, hl, hm, hmm, _, hc⟩
  · simp only [Value.cells, List.cons.injEq, and_true, Value.slice.injEq] at h0
    obtain ⟨rfl, rfl, rfl⟩ := h0
    exact ⟨none, 0, [], rfl, fun i hi => by simp at hi, Nat.zero_le _⟩
  · simp only [Value.cells, List.cons.injEq, and_true, Value.slice.injEq] at h0
    obtain ⟨rfl, rfl, rfl⟩ := h0
    have hlm : len ≤ m := by rw [hmm]; split <;> omega
    have str : ∀ i, i < len → ∃ s0 s1 : ByteArray, V0 i = .string s0 ∧ V1 i = .string s1 := by
      intro i hi
      obtain ⟨_, _, t0, t1⟩ := hc i (by omega)
      obtain ⟨s0, e0, _⟩ := DataW.trod_string Tryz.underlying9 t0
      obtain ⟨s1, e1, _⟩ := DataW.trod_string Tryz.underlying9 t1
      simp only [List.cons.injEq, and_true] at e0 e1
      exact ⟨s0, s1, e0, e1⟩
    let f : Nat → ByteArray × ByteArray := fun i => ((match V0 i with | .string s => s | _ => ⟨#[]⟩), (match V1 i with | .string s => s | _ => ⟨#[]⟩))
    refine ⟨some a', cap, (List.range len).map f, by rw [List.length_map, List.length_range], fun i hi => ?_, by rw [List.length_map, List.length_range]; omega⟩
    rw [List.length_map, List.length_range] at hi
    obtain ⟨c0, c1, _, _⟩ := hc i (by omega)
    obtain ⟨s0, s1, e0, e1⟩ := str i hi
    obtain ⟨b, off, spot⟩ := a'
    have hspot : spot = none := by simpa [Addr.add] using World.cell?_spot (hc 0 (by omega)).1
    subst hspot
    rw [Go.WideShapes.add_plain] at c0 c1
    refine ⟨b, off, rfl, World.block_lt_of_cell? W _ c0, ?_, ?_⟩
    · rw [c0, List.getElem_map, List.getElem_range]; simp only [f, e0]
    · rw [show off + i * 2 + 1 = off + (i * 2 + 1) by omega, c1, List.getElem_map, List.getElem_range]; simp only [f, e1]

end Go.Proofs.YtbmohenjphmlgabGreat
