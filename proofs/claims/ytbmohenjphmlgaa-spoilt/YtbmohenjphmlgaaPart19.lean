/- Part 19 of a proof: what the last text needs. -/
import Derived.Test.YtbmohenjphmlgaaPart18
import Derived.Test.YtbmohenjphmlgaaPart16
/- The walk of the statement Orders. -/
namespace Go.Proofs.Ytbmohenjphmlgaa
open Go.RowKit
set_option maxRecDepth 100000

theorem stepB2 {w a b : World} (h : Below w.heap.size w a) (h2 : Below a.heap.size a b) : Below w.heap.size w b := h.trans (h2.mono h.size)

/-- The rest of a row. -/
theorem prd_drop {B : Nat} {w : World} {a : Option Addr} {l : List (ByteArray × ByteArray)} {b off : Nat} (h : PRd B w a l) (ha : l ≠ [] → a = some ⟨b, off, none⟩) (i : Nat) (a' : Option Addr) (ha' : i < l.length → a' = some ⟨b, off + i * 2, none⟩) : PRd B w a' (l.drop i) := by
  intro j hj
  rw [List.length_drop] at hj
  obtain ⟨b2, off2, e, hlt, c0, c1⟩ := h (i + j) (by omega)
  have hne : l ≠ [] := fun e => by rw [e] at hj; simp at hj
  rw [ha hne] at e
  simp only [Option.some.injEq, Addr.mk.injEq, and_true] at e
  obtain ⟨rfl, rfl⟩ := e
  refine ⟨b, off + i * 2, ha' (by omega), hlt, ?_, ?_⟩
  · rw [List.getElem_drop, show off + i * 2 + j * 2 = off + (i + j) * 2 by omega]; exact c0
  · rw [List.getElem_drop, show off + i * 2 + j * 2 + 1 = off + (i + j) * 2 + 1 by omega]; exact c1

theorem prd_take {B : Nat} {w : World} {a : Option Addr} {l : List (ByteArray × ByteArray)} (h : PRd B w a l) (i : Nat) : PRd B w a (l.take i) := by
  intro j hj
  rw [List.length_take] at hj
  obtain ⟨b2, off2, e, hlt, c0, c1⟩ := h j (by omega)
  exact ⟨b2, off2, e, hlt, by rw [List.getElem_take]; exact c0, by rw [List.getElem_take]; exact c1⟩

/-- The rest of a row, cut off by its start: for a walk. -/
theorem wpList_slice_from {ops : Array Oper} {rest : List Oper} {o : Oper} {act : Act} {Q : Exit → Act → World → Prop} {w : World} (hgd : o.guard = none) (s x : Operand)
    (hop : o.op = .slice 47 s (some x) none none) (a : Option Addr) (len cap n : Nat) (hs : act.eval s = .slice a len cap) (hx : act.eval x = .int .i64 n) (hn : n ≤ len)
    (h : ∀ a', a' = (if cap = n then a else a.map (·.add (n * 2))) → wpList Try.prog ops Q rest (act.put o.dst (.slice a' (len - n) (cap - n))) w) :
    wpList Try.prog ops Q (o :: rest) act w := by
  refine wpList_plain hgd fun K hK => ?_
  have hu := Try.underlying47
  have hz := Try.sizeOf72
  have i1 : (0 : Int) ≤ (n : Int) := by omega
  have i2 : (n : Int) ≤ (len : Int) := by omega
  have hr : Sem.run Try.prog (Instr.sliceAt 47 (.slice a len cap) (some (.int .i64 n)) none none) w = .ok (.slice (if cap = n then a else a.map (·.add (n * 2))) (len - n) (cap - n)) w := by
    go_simp
  unfold Oper.wp execOp
  simp only [hop, Sem.run_bind, Sem.run_pure, Result.andThen_ok, Option.map_some, Option.map_none, hs, hx, hr]
  exact hK _ _ (h _ rfl)

theorem rest_rd {w : World} {base : Nat} {a1 : Option Addr} {c1 n : Nat} {L : List (ByteArray × ByteArray)} (h : AOwn w base (.slice a1 L.length c1) L) (hn : n ≤ L.length) {a2 : Option Addr} (h2 : a2 = (if c1 = n then a1 else a1.map (·.add (n * 2)))) : (a2 = none → (L.drop n).length = 0 ∧ c1 - n = 0) ∧ PRd w.heap.size w a2 (L.drop n) := by
  have hrd := aown_rd h
  obtain ⟨_, _, hsh, hle⟩ := aown_shape h
  simp only [Value.slice.injEq] at hsh
  obtain ⟨_, _, rfl⟩ := hsh
  rcases h.2 with ⟨hv, h0⟩ | ⟨g, cap', cur, hv, _⟩
  · simp only [Value.slice.injEq] at hv
    obtain ⟨rfl, _, rfl⟩ := hv
    have : L = [] := List.eq_nil_of_length_eq_zero h0
    subst this
    refine ⟨fun _ => ⟨by simp, by omega⟩, fun i hi => ?_⟩
    rw [List.length_drop] at hi
    simp at hi
  · simp only [Value.slice.injEq] at hv
    obtain ⟨rfl, _, _⟩ := hv
    by_cases hc : c1 = n
    · rw [if_pos hc] at h2
      subst h2
      refine ⟨fun e => (by cases e), fun i hi => ?_⟩
      rw [List.length_drop] at hi
      omega
    · rw [if_neg hc] at h2
      have e : a2 = some ⟨g, 0 + n * 2, none⟩ := by
        rw [h2]
        show some ((⟨g, 0, none⟩ : Addr).add (n * 2)) = _
        congr 1
        unfold Addr.add; split <;> simp_all
      refine ⟨fun e2 => (by rw [e] at e2; cases e2), prd_drop hrd (fun _ => rfl) n a2 (fun _ => e)⟩

set_option maxHeartbeats 12800000 in
theorem orders_any (a : Option Addr) (cap : Nat) (raw : List (ByteArray × ByteArray)) (key old : ByteArray) (at_ : Int) (w : World) (hr : PRd w.heap.size w a raw) (hl : raw.length ≤ maxLen) (h1 : -9223372036854775808 ≤ at_) (h2 : at_ ≤ 9223372036854775807) :
    Calls Try.prog 9 #[.slice a raw.length cap, .string key, .string old, .int .i64 at_] w fun e w' => e = .returned (.bool true) ∧ Below w.heap.size w w' := by
  have HT := hid (table_any a cap raw w hr hl)
  have HFN := hid (tableB_fine raw)
  have HLN := hid (tableB_len raw)
  have HRT := hid (fun a cap l w h hf => root_fine a cap l w h hf)
  have HVA := hid (fun a cap l key w h hl => value_any a cap l key w h hl)
  have HS6 : Hid (∀ s w, Calls Try.prog 36 #[.string s, .int .i64 6] w fun e w' => e = .returned (.string (shortB s 6)) ∧ w' = w) := fun s w => shortG_any s 6 w (by decide)
  have HS40 : Hid (∀ s w, Calls Try.prog 36 #[.string s, .int .i64 40] w fun e w' => e = .returned (.string (shortB s 40)) ∧ w' = w) := fun s w => shortG_any s 40 w (by decide)
  have HPI := hid (fun n w hn hn2 => pick_any at_ n w hn h1 h2 hn2)
  clear hr hl h1 h2
  go_enter Try.func9, Try.ntmps9
  go_wp2_with fail
  refine HT.out.mono ?_
  rintro e w1 ⟨v1, rfl, o1, b1⟩
  obtain ⟨a1, c1, hv1, hc1⟩ := aown_shape o1
  subst hv1
  have HO1 := hid o1
  have HB1 := hid b1
  clear o1 b1 HT
  generalize tableB raw = L at *
  go_wp2_with fail
  refine (HRT.out _ _ _ _ (aown_rd HO1.out) HFN.out).mono ?_
  rintro e w2 ⟨rfl, b2⟩
  have HB2 : Hid (Below w.heap.size w w2) := stepB2 HB1.out b2
  have HO2 := hid (aown_later HO1.out b2)
  clear b2 HB1 HO1
  obtain ⟨R, hR⟩ : ∃ R, R = rootB L := ⟨_, rfl⟩
  have HRL : Hid (R = rootB L) := hR
  rw [← hR]
  clear hR
  have hln := HLN.out
  go_wp2_with fail
  go_loopw [12, 13, 14] (fun v i _ wr => ∃ j : Nat, i = .int .i64 ((j : Int) - 1) ∧ j ≤ L.length ∧ Hid (AOwn wr w2.heap.size v ((turnedB L).take (L.length - j)) ∧ Below w2.heap.size w2 wr)) (fun _ i _ _ => ((intOf i) + 1).toNat)
  case atStart => exact ⟨L.length, rfl, Nat.le_refl _, by rw [Nat.sub_self]; exact aown_nil _ _, Below.refl _ _⟩
  case round =>
    obtain ⟨j, rfl, hj, HH⟩ := hrel
    obtain ⟨av, cv, hv, _⟩ := aown_shape HH.out.1
    subst hv
    by_cases hj0 : 0 < j
    · obtain ⟨i, rfl⟩ : ∃ i, j = i + 1 := ⟨j - 1, by omega⟩
      have HTK := hid (turnedB_take L i (by omega))
      have HLE : Hid (((turnedB L).take (L.length - (i + 1))).length ≤ 1000000) := by rw [Hid, List.length_take]; omega
      obtain ⟨b, off, rfl, hb, e0, e1⟩ := aown_rd HO2.out i (by omega)
      have f0 := (HH.out.2.cell (p := ⟨b, off + i * 2, none⟩) hb).trans e0
      have f1 := (HH.out.2.cell (p := ⟨b, off + i * 2 + 1, none⟩) hb).trans e1
      have i1 : (0 : Int) ≤ (i : Int) := by omega
      have i2 : (i : Int) < (L.length : Int) := by omega
      have hij : (((i + 1 : Nat) : Int) - 1) = (i : Int) := by omega
      rw [hij]
      clear hij e0 e1
      generalize (turnedB L).take (L.length - (i + 1)) = tk at *
      go_wp2_with fail
      refine (HVA.out _ _ _ _ _ (((aown_rd HO2.out).later HH.out.2).wider HH.out.2.size) (by omega)).mono ?_
      rintro e w3 ⟨rfl, hw⟩
      obtain rfl := hw.symm
      clear hw
      go_wp2_with (at_builtin; go_loud (refine wpList_push_apair rfl (.tmp 44) (.tmp 52) rfl (L[i].1, valB L L[i].1) wr.heap.size rfl rfl rfl HH.out.1 (Below.refl _ _) HH.out.2 (Nat.le_refl _) HLE.out ?_); intro v' w' ho' hb'; have HO' := hid ho'; have HB' := hid hb'; clear ho' hb')
      refine ⟨⟨i, rfl, by omega, by rw [HTK.out]; exact HO'.out, HB'.out⟩, ?_⟩
      show (((i : Int) - 1) + 1).toNat < ((i : Int) + 1).toNat
      omega
    · obtain rfl : j = 0 := by omega
      have HTL : Hid ((turnedB L).take (L.length - 0) = turnedB L) := by rw [Hid, List.take_of_length_le (by simp [turnedB])]
      have HOT := hid HH.out.1
      have HBT := hid HH.out.2
      rw [HTL.out] at HOT ⊢
      have HFT := hid (turnedB_fine HFN.out)
      have HRE : Hid (rootB (turnedB L) = R) := by rw [Hid, HRL.out]; exact rootB_ext (turned_value L)
      have hm1 : (((0 : Nat) : Int) - 1) = -1 := rfl
      rw [hm1]
      clear HH HTL hm1 hj hj0
      generalize turnedB L = TL at *
      generalize wr = W3 at *
      go_wp2_with fail
      refine (HRT.out _ _ _ _ (aown_rd HOT.out) HFT.out).mono ?_
      rintro e w4 ⟨rfl, b4⟩
      rw [HRE.out]
      have HB4 : Hid (Below w.heap.size w w4) := stepB2 (HB2.out.trans (HBT.out.mono HB2.out.size)) b4
      have HO4 : Hid (AOwn w4 w.heap.size (.slice a1 L.length c1) L) := aown_later (aown_later HO2.out HBT.out) b4
      clear b4 HOT HBT HFT HRE HO2
      go_wp2_with fail
      refine (HS6.out _ _).mono ?_
      rintro e w5 ⟨rfl, hw⟩
      obtain rfl := hw.symm
      clear hw
      have hk6 := shortB_size key 6
      have ho40 := shortB_size old 40
      generalize shortB key 6 = K at *
      go_wp2_with fail
      refine (HPI.out _ _ (by omega) (by omega)).mono ?_
      rintro e w5 ⟨⟨m, rfl, m1, m2⟩, hw⟩
      obtain rfl := hw.symm
      clear hw
      obtain ⟨n, rfl⟩ : ∃ n : Nat, m = (n : Int) := ⟨m.toNat, by omega⟩
      have hn : n ≤ L.length := by omega
      have hn1 : (n : Int) ≤ (c1 : Int) := by omega
      have hn2 : (n : Int) ≤ (L.length : Int) := by omega
      have HNL : Hid ((L.take n).length = n) := by rw [Hid, List.length_take]; omega
      have HRD : Hid (PRd w4.heap.size w4 a1 L) := aown_rd HO4.out
      have HNO : Hid (a1 = none → L.length = 0 ∧ c1 = 0) := by
        intro e
        rcases HO4.out.2 with ⟨hv, h0⟩ | ⟨g, cap', cur, hv, _⟩
        · simp only [Value.slice.injEq] at hv
          exact ⟨h0, hv.2.2⟩
        · simp only [Value.slice.injEq] at hv
          rw [e] at hv; cases hv.1
      go_wp2_with (at_builtin; go_loud (refine wpList_append_apairs _ rfl (.tmp 66) (.tmp 69) rfl w4.heap.size w4.heap.size _ a1 c1 [] (L.take n) rfl (by rw [HNL.out]; rfl) (aown_nil _ _) (prd_take HRD.out n) (fun e => by have := HNO.out e; rw [HNL.out]; exact ⟨by omega, this.2⟩) (by rw [HNL.out]; simp; omega) (Nat.le_refl _) ?_); intro v' w' ho' hg' hn'; have HO' := hid ho'; have HG' := hid hg'; clear ho' hg' hn')
      have HB5 : Hid (Below w4.heap.size w4 w') := (Below.refl _ _).grown HG'.out (Nat.le_refl _) (fun g hg => by cases hg)
      rw [List.nil_append] at HO'
      obtain ⟨av5, cv5, hv5, _⟩ := aown_shape HO'.out
      rw [HNL.out] at hv5
      subst hv5
      have HLE : Hid ((L.take n).length ≤ 1000000) := by rw [Hid, HNL.out]; omega
      refine (HS40.out _ _).mono ?_
      rintro e w5 ⟨rfl, hw⟩
      obtain rfl := hw.symm
      clear hw HG'
      generalize shortB old 40 = O at *
      have HT1 : Hid ((L.take n ++ [(K, O)]).length = n + 1) := by rw [Hid, List.length_append, HNL.out]; rfl
      have HND : Hid ((L.drop n).length = L.length - n) := by rw [Hid, List.length_drop]
      have HLT : Hid ((L.take n ++ [(K, O)]).length + (L.drop n).length ≤ 1000000) := by rw [Hid, HT1.out, HND.out]; omega
      have HDR : Hid (∀ a2, a2 = (if c1 = n then a1 else a1.map (·.add (n * 2))) → (a2 = none → (L.drop n).length = 0 ∧ c1 - n = 0) ∧ PRd w4.heap.size w4 a2 (L.drop n)) := by
        exact fun a2 h2 => rest_rd HO4.out hn h2
      obtain ⟨T1, hT⟩ : ∃ T1, T1 = L.take n ++ [(K, O)] := ⟨_, rfl⟩
      have HTT := hid hT
      rw [← hT] at HT1 HLT
      clear hT
      obtain ⟨D1, hD⟩ : ∃ D1, D1 = L.drop n := ⟨_, rfl⟩
      have HDD := hid hD
      rw [← hD] at HND HLT HDR
      clear hD
      go_wp2_with (first
        | (at_builtin; refine wpList_push_apair rfl (.tmp 71) (.tmp 76) rfl (K, O) w'.heap.size rfl rfl rfl HO'.out (Below.refl _ _) HB5.out (Nat.le_refl _) HLE.out ?_; intro v6 w6 ho' hb'; rw [← HTT.out] at ho'; have HO6 := hid ho'; have HB6 := hid hb'; clear ho' hb'; obtain ⟨av6, cv6, hv6, _⟩ := aown_shape HO6.out; rw [HT1.out] at hv6; subst hv6)
        | (refine wpList_slice_from rfl (.tmp 79) (.tmp 80) rfl a1 L.length c1 n rfl rfl hn ?_; intro a2 ha2; have HA2 := hid (HDR.out a2 ha2); clear ha2)
        | (at_builtin; go_loud (refine wpList_append_apairs _ rfl (.tmp 78) (.tmp 81) rfl w4.heap.size w4.heap.size (.slice av6 (n + 1) cv6) a2 (c1 - n) T1 D1 rfl (by rw [HND.out]; rfl) HO6.out (HA2.out.2.later HB6.out) HA2.out.1 HLT.out HB6.out.size ?_); intro v7 w7 ho' hg' hn'; have HO7 := hid ho'; have HG7 := hid hg'; clear ho' hg' hn'))
      have HB7 : Hid (Below w4.heap.size w4 w7) := HB6.out.grown HG7.out HB6.out.size (fun g hg => (aown_lt HO6.out g hg).1)
      refine (HVA.out _ _ _ _ _ (((aown_rd HO4.out).later HB7.out).wider HB7.out.size) (by omega)).mono ?_
      rintro e w8 ⟨rfl, hw⟩
      obtain rfl := hw.symm
      clear hw HG7
      have HLM : Hid ((T1 ++ D1).length ≤ 1000000) := by rw [Hid, List.length_append]; exact HLT.out
      have HMB : Hid (T1 ++ D1 ++ [(K, valB L K)] = moreB L n K O) := by rw [Hid, HTT.out, HDD.out]; rfl
      have HMF := hid (moreB_fine HFN.out HLN.out n hk6 ho40)
      have HRE : Hid (rootB (moreB L n K O) = R) := by rw [Hid, HRL.out]; exact rootB_ext (more_value L n K O)
      obtain ⟨M7, hM⟩ : ∃ M7, M7 = T1 ++ D1 := ⟨_, rfl⟩
      rw [← hM] at HO7 HLM HMB
      clear hM HT1 HND HLT HDR HTT HDD HA2 HO6 HB6 HO' HB5
      obtain ⟨av7, cv7, hv7, _⟩ := aown_shape HO7.out
      subst hv7
      generalize valB L K = VK at *
      obtain ⟨M8, hM⟩ : ∃ M8, M8 = moreB L n K O := ⟨_, rfl⟩
      rw [← hM] at HMB HMF HRE
      clear hM
      go_wp2_with (first
        | (at_builtin; go_loud (refine wpList_push_apair rfl (.tmp 86) (.tmp 90) rfl (K, VK) w7.heap.size rfl rfl rfl HO7.out (Below.refl _ _) HB7.out (Nat.le_refl _) HLM.out ?_); intro v8 w8 ho' hb'; rw [HMB.out] at ho'; have HO8 := hid ho'; have HB8 := hid hb'; clear ho' hb'; obtain ⟨av8, cv8, hv8, _⟩ := aown_shape HO8.out; subst hv8))
      refine (HRT.out _ _ _ _ (aown_rd HO8.out) HMF.out).mono ?_
      rintro e w9 ⟨rfl, b9⟩
      rw [HRE.out]
      have HB9 : Hid (Below w.heap.size w w9) := stepB2 (HB4.out.trans (HB8.out.mono HB4.out.size)) b9
      have hrs : (R.size : Int) = 8 := by rw [HRL.out, rootB_size]; rfl
      have hrr : (R.toList == R.toList) = true := beq_self_eq_true _
      clear b9
      go_wp2_with fail
      go_ret
      exact ⟨rfl, HB9.out⟩
end Go.Proofs.Ytbmohenjphmlgaa

/- Proofs of tables that may be; the walk of the statement Proven. -/
namespace Go.Proofs.Ytbmohenjphmlgaa
open Go.RowKit
set_option maxRecDepth 100000

/-- The proof of a table for a key. -/
def proofB (l : List (ByteArray × ByteArray)) (key : ByteArray) : List ByteArray := (Tr.prove (lists l) key.data.toList).map toB

theorem fine_lists {l : List (ByteArray × ByteArray)} (h : Fine l) : (∀ p ∈ lists l, p.1.length ≤ 6) ∧ (∀ p ∈ lists l, p.2.length ≤ 40) := lists_ok (fun p hp => (h.2 p hp).1) (fun p hp => (h.2 p hp).2)

theorem proofB_bl (l : List (ByteArray × ByteArray)) (key : ByteArray) : bl (proofB l key) = Tr.prove (lists l) key.data.toList := by
  unfold bl proofB
  rw [List.map_map]
  exact List.map_id' _

theorem proofB_len {l : List (ByteArray × ByteArray)} (h : Fine l) (key : ByteArray) : (proofB l key).length ≤ 14 := by
  unfold proofB
  rw [List.length_map]
  exact Tr.prove_len _ _ (fine_lists h).1 (fine_lists h).2

theorem proofB_pos (l : List (ByteArray × ByteArray)) (key : ByteArray) : 0 < (proofB l key).length := by
  unfold proofB
  rw [List.length_map]
  unfold Tr.prove Tr.proofOf
  simp

theorem proofB_small {l : List (ByteArray × ByteArray)} (h : Fine l) (key : ByteArray) : ∀ s ∈ proofB l key, s.size ≤ 300 := by
  intro s hs
  obtain ⟨x, hx, rfl⟩ := List.mem_map.1 hs
  show x.toArray.size ≤ 300
  rw [List.size_toArray]
  exact Tr.prove_small _ _ (fine_lists h).1 (fine_lists h).2 x hx

theorem prove_fine (a : Option Addr) (cap : Nat) (l : List (ByteArray × ByteArray)) (key : ByteArray) (w : World) (hr : PRd w.heap.size w a l) (hf : Fine l) (hk : key.size ≤ 6) :
    Calls Try.prog 27 #[.slice a l.length cap, .string key] w fun e w' => ∃ r, e = .returned (.tuple #[r, .int .i64 0]) ∧ TOwn w' w.heap.size r (proofB l key) ∧ Below w.heap.size w w' := by
  have h := prove_any a cap l key w hr
  rw [fine_fault hf hk, if_pos rfl] at h
  exact h

theorem verify_fine (a : Option Addr) (cap : Nat) (l : List (ByteArray × ByteArray)) (key : ByteArray) (w : World) (hr : SRd w.heap.size w a (proofB l key)) (hf : Fine l) (hk : key.size ≤ 6) :
    Calls Try.prog 32 #[.string (rootB l), .string key, .slice a (proofB l key).length cap] w fun e w' => e = .returned (.tuple #[.string (valB l key), .bool (!((valB l key).toList == [])), .int .i64 0]) ∧ Below w.heap.size w w' := by
  have h := verify_any (rootB l) key a cap (proofB l key) w hr
  have hv : Tr.verify (rootB l).data.toList key.data.toList (bl (proofB l key)) = ((valB l key).data.toList, !(valB l key).data.toList.isEmpty, 0) := by
    rw [proofB_bl, valB_value]
    exact Tr.verify_prove (lists l) key.data.toList (fine_lists hf).1 (fine_lists hf).2 (by rw [ba_len]; exact hk)
  rw [hv] at h
  have e1 : ((valB l key).toList == []) = (valB l key).data.toList.isEmpty := by
    rw [ByteArray.toList_eq]
    cases (valB l key).data.toList <;> rfl
  rw [e1]
  exact h

set_option maxHeartbeats 6400000 in
theorem proven_any (a : Option Addr) (cap : Nat) (raw : List (ByteArray × ByteArray)) (key : ByteArray) (w : World) (hr : PRd w.heap.size w a raw) (hl : raw.length ≤ maxLen) :
    Calls Try.prog 10 #[.slice a raw.length cap, .string key] w fun e w' => e = .returned (.bool true) ∧ Below w.heap.size w w' := by
  have HT := hid (table_any a cap raw w hr hl)
  have HFN := hid (tableB_fine raw)
  have HRT := hid (fun a cap l w h hf => root_fine a cap l w h hf)
  have HPR := hid (fun a cap l key w h hf hk => prove_fine a cap l key w h hf hk)
  have HVE := hid (fun a cap l key w h hf hk => verify_fine a cap l key w h hf hk)
  have HVA := hid (fun a cap l key w h hl => value_any a cap l key w h hl)
  have HS6 : Hid (∀ s w, Calls Try.prog 36 #[.string s, .int .i64 6] w fun e w' => e = .returned (.string (shortB s 6)) ∧ w' = w) := fun s w => shortG_any s 6 w (by decide)
  clear hr hl
  go_enter Try.func10, Try.ntmps10
  go_wp2_with fail
  refine HT.out.mono ?_
  rintro e w1 ⟨v1, rfl, o1, b1⟩
  obtain ⟨a1, c1, hv1, hc1⟩ := aown_shape o1
  subst hv1
  have HO1 := hid o1
  have HB1 := hid b1
  clear o1 b1 HT
  generalize tableB raw = L at *
  go_wp2_with fail
  refine (HS6.out _ _).mono ?_
  rintro e w2 ⟨rfl, hw⟩
  obtain rfl := hw.symm
  clear hw
  have hk6 := shortB_size key 6
  generalize shortB key 6 = K at *
  have HK6 := hid hk6
  clear hk6
  go_wp2_with fail
  refine (HRT.out _ _ _ _ (aown_rd HO1.out) HFN.out).mono ?_
  rintro e w2 ⟨rfl, b2⟩
  have HB2 : Hid (Below w.heap.size w w2) := stepB2 HB1.out b2
  have HO2 := hid (aown_later HO1.out b2)
  clear b2 HB1 HO1
  have HVE' := hid (fun a cap w h => HVE.out a cap L K w h HFN.out HK6.out)
  generalize rootB L = R at *
  go_wp2_with fail
  refine (HPR.out _ _ _ _ _ (aown_rd HO2.out) HFN.out HK6.out).mono ?_
  rintro e w3 ⟨r3, rfl, o3, b3⟩
  have HB3 : Hid (Below w.heap.size w w3) := stepB2 HB2.out b3
  have HO3 := hid (aown_later HO2.out b3)
  obtain ⟨a3, c3, hv3, _⟩ := town_shape o3
  subst hv3
  have HP3 := hid o3
  have hpos := proofB_pos L K
  clear b3 HB2 HO2 o3
  generalize proofB L K = P at *
  go_wp2_with fail
  refine (HVE'.out _ _ _ (town_rd HP3.out)).mono ?_
  rintro e w4 ⟨rfl, b4⟩
  have HB4 : Hid (Below w.heap.size w w4) := stepB2 HB3.out b4
  have HO4 := hid (aown_later HO3.out b4)
  clear b4 HB3 HO3
  have HVA' := hid (HVA.out _ c1 _ K _ (aown_rd HO4.out) (by have := HFN.out.1; omega))
  generalize valB L K = V at *
  have i1 : (1 : Int) ≤ (P.length : Int) := by omega
  go_wp2_with fail
  refine HVA'.out.mono ?_
  rintro e w5 ⟨rfl, hw⟩
  obtain rfl := hw.symm
  clear hw
  cases hV : V.toList.isEmpty with
  | true =>
    go_wp2_with fail
    go_ret
    exact ⟨rfl, HB4.out⟩
  | false =>
    go_wp2_with fail
    go_ret
    exact ⟨rfl, HB4.out⟩
end Go.Proofs.Ytbmohenjphmlgaa

/- What the statement Spoilt does: bytes that are bent, proofs that are none. -/
namespace Go.Proofs.Ytbmohenjphmlgaa
open Go.RowKit
set_option maxRecDepth 100000

theorem u8_xor (a b : UInt8) : bits .xor .u8 (a.toNat : Int) (b.toNat : Int) = (((a ^^^ b).toNat : Nat) : Int) := by
  have ha := a.toNat_lt
  have hb := b.toNat_lt
  have h1 : (BitVec.ofInt 8 (a.toNat : Int)).toNat = a.toNat := by
    rw [BitVec.ofInt_natCast, BitVec.toNat_ofNat]; exact Nat.mod_eq_of_lt (by omega)
  have h2 : (BitVec.ofInt 8 (b.toNat : Int)).toNat = b.toNat := by
    rw [BitVec.ofInt_natCast, BitVec.toNat_ofNat]; exact Nat.mod_eq_of_lt (by omega)
  have hx : a.toNat ^^^ b.toNat < 2 ^ 8 := Nat.xor_lt_two_pow (by omega) (by omega)
  show IntKind.u8.wrap ((BitVec.ofInt 8 (a.toNat : Int) ^^^ BitVec.ofInt 8 (b.toNat : Int)).toNat : Int) = _
  rw [BitVec.toNat_xor, h1, h2, UInt8.toNat_xor]
  have : ∀ n : Int, IntKind.u8.wrap n = n % 256 := fun n => by simp [IntKind.wrap, IntKind.bits, IntKind.signed]
  rw [this]
  omega

theorem xor_ne {c t : UInt8} (h : t ≠ 0) : c ^^^ t ≠ c := by
  intro e
  apply h
  have := congrArg (fun x => c ^^^ x) e
  simpa [← UInt8.xor_assoc] using this

/-- Which of n things a raw number speaks of. -/
def pickN (c n : Int) : Int := (if c < 0 then -(c + 1) else c) % n

theorem pickN_lt (c n : Int) (hn : 0 < n) : 0 ≤ pickN c n ∧ pickN c n < n := ⟨Int.emod_nonneg _ (by omega), Int.emod_lt_of_pos _ hn⟩

theorem pick_is (c n : Int) (w : World) (hn : 0 < n) (h1 : -9223372036854775808 ≤ c) (h2 : c ≤ 9223372036854775807) (hn2 : n ≤ 9223372036854775807) : Calls Try.prog 40 #[.int .i64 c, .int .i64 n] w fun e w' => e = .returned (.int .i64 (pickN c n)) ∧ w' = w := by
  have hn0 : ¬ n = 0 := by omega
  by_cases hc : c < 0
  · have HP : Hid (pickN c n = -((c + 1).tmod n)) := by
      rw [Hid, pickN, if_pos hc, ← Int.neg_tmod, Int.tmod_eq_emod_of_nonneg (by omega)]
    go_enter Try.func40, Try.ntmps40
    go_wp2_with fail
    go_ret
    exact ⟨by rw [HP.out]; rfl, rfl⟩
  · have HP : Hid (pickN c n = c % n) := by
      rw [Hid, pickN, if_neg hc]
    go_enter Try.func40, Try.ntmps40
    go_wp2_with fail
    go_ret
    exact ⟨by rw [HP.out]; rfl, rfl⟩

/-- A number in bounds, as a walk has it. -/
theorem pick_nat (c : Int) (n : Nat) (hn : 0 < n) (h1 : -9223372036854775808 ≤ c) (h2 : c ≤ 9223372036854775807) (hn2 : n ≤ 1000000) : ∃ m : Nat, m < n ∧ ∀ w, Calls Try.prog 40 #[.int .i64 c, .int .i64 n] w fun e w' => e = .returned (.int .i64 m) ∧ w' = w := by
  have hb := pickN_lt c n (by omega)
  refine ⟨(pickN c n).toNat, by omega, fun w => ?_⟩
  rw [Int.toNat_of_nonneg hb.1]
  exact pick_is c n w (by omega) h1 h2 (by omega)

theorem frozen_bytes (w : World) (s : ByteArray) (j : Nat) (hj : j < s.size) : (Lib.bytesWorld w 5 s).frozen? ⟨w.heap.size, j, none⟩ = false := by
  unfold World.frozen?
  rw [Lib.bytesWorld_at_new]
  have : s.size ≤ (Lib.bytesCells w 5 s).size := by
    unfold Lib.bytesCells
    rw [Array.size_append, Array.size_map]
    exact Nat.le_add_right _ _
  simp only [Bool.and_eq_false_iff, decide_eq_false_iff_not]
  left
  omega

theorem bytes_cell (w : World) (s : ByteArray) (j : Nat) (hj : j < s.size) : (Lib.bytesWorld w 5 s).cell? ⟨w.heap.size, j, none⟩ = some (.int .u8 (s[j].toNat : Nat)) := by
  rw [Lib.bytesWorld_cell w 5 s j hj, List.getD_eq_getElem?_getD, List.getElem?_eq_getElem (by rw [ba_len]; exact hj)]
  rfl

/-- The bytes of a string with one byte turned. -/
def bentB (s : ByteArray) (m : Nat) (x : UInt8) : ByteArray := ⟨(s.data.toList.set m x).toArray⟩

theorem brd_bent (w : World) (s : ByteArray) (cap m : Nat) (x : UInt8) : Brd ((Lib.bytesWorld w 5 s).setCell ⟨w.heap.size, m, none⟩ (.int .u8 (x.toNat : Nat))).heap.size ((Lib.bytesWorld w 5 s).setCell ⟨w.heap.size, m, none⟩ (.int .u8 (x.toNat : Nat))) (.slice (some ⟨w.heap.size, 0, none⟩) s.size cap) (s.data.toList.set m x) := by
  have hsz : ((Lib.bytesWorld w 5 s).setCell ⟨w.heap.size, m, none⟩ (.int .u8 (x.toNat : Nat))).heap.size = w.heap.size + 1 := by
    rw [← Lib.bytesWorld_size w 5 s]
    exact Array.size_modify
  refine .inr ⟨w.heap.size, 0, cap, by rw [List.length_set, ba_len], by omega, ?_⟩
  intro j hj
  rw [List.length_set, ba_len] at hj
  rw [Nat.zero_add]
  have hh : ((Lib.bytesWorld w 5 s).setCell ⟨w.heap.size, m, none⟩ (.int .u8 (x.toNat : Nat))).heap[w.heap.size]? = some (.cells ((Lib.bytesCells w 5 s).setIfInBounds m (.int .u8 (x.toNat : Nat))) 5 ((Lib.bytesCells w 5 s).size, (Lib.bytesCells w 5 s).size + 1)) := by
    unfold World.setCell
    rw [Array.getElem?_modify, if_pos rfl, Lib.bytesWorld_at_new]
    rfl
  rw [cell_of_row _ _ j _ _ _ hh, List.getElem_set]
  have hc := bytes_cell w s j hj
  rw [cell_of_row _ _ j _ _ _ (Lib.bytesWorld_at_new w 5 s)] at hc
  have hlt : j < (Lib.bytesCells w 5 s).size := (Array.getElem?_eq_some_iff.1 hc).1
  by_cases h : m = j
  · subst h
    rw [if_pos rfl, Array.getElem?_setIfInBounds_self_of_lt hlt]
  · rw [if_neg h, Array.getElem?_setIfInBounds_ne h]
    exact hc

theorem bl_small {p : List ByteArray} (h : ∀ s ∈ p, s.size ≤ 1000) : ∀ s ∈ bl p, s.length ≤ 1000 := by
  intro s hs
  obtain ⟨x, hx, rfl⟩ := List.mem_map.1 hs
  rw [ba_len]
  exact h x hx

theorem proof_runs {l : List (ByteArray × ByteArray)} (hf : Fine l) (key : ByteArray) : ∃ w, Tr.vloop 0 ⟨Tr.digits key.data.toList, false, [], false, (rootB l).data.toList⟩ (bl (proofB l key)) = some w ∧ w.need = [] := by
  obtain ⟨w, h1, h2, _⟩ := Tr.prove_loop (lists l) key.data.toList (fine_lists hf).1 (fine_lists hf).2
  exact ⟨w, by rw [proofB_bl]; exact h1, h2⟩

section
variable {l : List (ByteArray × ByteArray)} (hf : Fine l) {key : ByteArray} (hk : key.size ≤ 6)
include hf hk

theorem spoilt_bent {i : Nat} (hi : i < (proofB l key).length) {s : ByteArray} (hs : s.size ≤ 1000) (hne : Tr.sum s.data.toList ≠ Tr.sum (proofB l key)[i].data.toList) : Tr.verify (rootB l).data.toList key.data.toList (bl ((proofB l key).set i s)) = ([], false, 6) := by
  obtain ⟨w, h1, h2⟩ := proof_runs hf key
  rw [Tr.verify_ok (by rw [ba_len, rootB_size]) (by rw [ba_len]; exact hk) (by rw [bl_len, List.length_set]; have := proofB_len hf key; omega) (bl_small (fun x hx => by
    rcases List.mem_or_eq_of_mem_set hx with hx | rfl
    · exact Nat.le_trans (proofB_small hf key x hx) (by decide)
    · exact hs))]
  have e : bl ((proofB l key).set i s) = (bl (proofB l key)).set i s.data.toList := by unfold bl; rw [List.map_set]
  rw [e, Tr.vloop_bent h1 i (by rw [bl_len]; exact hi) s.data.toList (by rw [bl_at _ _ hi]; exact hne)]
  rfl

theorem spoilt_less : Tr.verify (rootB l).data.toList key.data.toList (bl ((proofB l key).take ((proofB l key).length - 1))) = ([], false, 6) := by
  obtain ⟨w, h1, h2⟩ := proof_runs hf key
  rw [Tr.verify_ok (by rw [ba_len, rootB_size]) (by rw [ba_len]; exact hk) (by rw [bl_len, List.length_take]; have := proofB_len hf key; omega) (bl_small (fun x hx => Nat.le_trans (proofB_small hf key x (List.mem_of_mem_take hx)) (by decide)))]
  have e : bl ((proofB l key).take ((proofB l key).length - 1)) = (bl (proofB l key)).take ((bl (proofB l key)).length - 1) := by rw [bl_len]; unfold bl; rw [List.map_take]
  rw [e]
  exact Tr.vloop_less h1 (by rw [bl_len]; exact proofB_pos l key)

theorem spoilt_more {s : ByteArray} (hs : s.size ≤ 1000) : Tr.verify (rootB l).data.toList key.data.toList (bl (proofB l key ++ [s])) = ([], false, 6) := by
  obtain ⟨w, h1, h2⟩ := proof_runs hf key
  rw [Tr.verify_ok (by rw [ba_len, rootB_size]) (by rw [ba_len]; exact hk) (by rw [bl_len, List.length_append]; have := proofB_len hf key; simp; omega) (bl_small (fun x hx => by
    rcases List.mem_append.1 hx with hx | hx
    · exact Nat.le_trans (proofB_small hf key x hx) (by decide)
    · rw [List.mem_singleton.1 hx]; exact hs))]
  have e : bl (proofB l key ++ [s]) = bl (proofB l key) ++ [s.data.toList] := by simp [bl]
  rw [e, Tr.vloop_more h1 h2]
  rfl

theorem spoilt_root {r : ByteArray} (hr : r.size = 8) (hne : r.data.toList ≠ (rootB l).data.toList) : Tr.verify r.data.toList key.data.toList (bl (proofB l key)) = ([], false, 6) := by
  obtain ⟨w, h1, h2⟩ := proof_runs hf key
  rw [Tr.verify_ok (by rw [ba_len]; exact hr) (by rw [ba_len]; exact hk) (by rw [bl_len]; have := proofB_len hf key; omega) (bl_small (fun x hx => Nat.le_trans (proofB_small hf key x hx) (by decide)))]
  rw [Tr.vloop_root h1 (by rw [bl_len]; exact proofB_pos l key) hne]
  rfl
end

theorem verify_six {root key : ByteArray} {a : Option Addr} {cap : Nat} {p : List ByteArray} {w : World} (hr : SRd w.heap.size w a p) (h : Tr.verify root.data.toList key.data.toList (bl p) = ([], false, 6)) :
    Calls Try.prog 32 #[.string root, .string key, .slice a p.length cap] w fun e w' => e = .returned (.tuple #[.string ⟨#[]⟩, .bool false, .int .i64 6]) ∧ Below w.heap.size w w' := by
  have hv := verify_any root key a cap p w hr
  rw [h] at hv
  exact hv

theorem bent_size (s : ByteArray) (m : Nat) (x : UInt8) : (bentB s m x).size = s.size := by
  show (s.data.toList.set m x).toArray.size = s.size
  rw [List.size_toArray, List.length_set, ba_len]

theorem bent_sum {s : ByteArray} {m : Nat} (hm : m < s.size) {t : UInt8} (ht : t ≠ 0) : Tr.sum (bentB s m (s[m] ^^^ t)).data.toList ≠ Tr.sum s.data.toList :=
  Tr.sum_set s.data.toList m (by rw [ba_len]; exact hm) _ (xor_ne ht)

theorem bent_ne {s : ByteArray} {m : Nat} (hm : m < s.size) {t : UInt8} (ht : t ≠ 0) : (bentB s m (s[m] ^^^ t)).data.toList ≠ s.data.toList := fun e => bent_sum hm ht (congrArg Tr.sum e)

theorem elems_full : ∀ (f : Nat) (l : List Tr.Ent) (k : List UInt8), ∀ s ∈ Tr.elems f l k, s ≠ [] := by
  intro f
  induction f with
  | zero => intro l k s hs; simp [Tr.elems] at hs
  | succ f ih =>
    intro l k s hs
    rcases Tr.list_cases l with rfl | ⟨e, rfl⟩ | ⟨a, b, r, rfl⟩
    · simp [Tr.elems] at hs
    · simp [Tr.elems] at hs
    · by_cases h0 : Tr.shared (a :: b :: r) = []
      · have hk : Tr.Forks (a :: b :: r) := ⟨a, b, r, rfl, h0⟩
        cases k with
        | nil => rw [Tr.elems_end f hk] at hs; cases hs
        | cons c k =>
          rw [Tr.elems_fork f hk] at hs
          rcases List.mem_append.1 hs with hs | hs
          · split at hs
            · cases hs
            · rw [List.mem_singleton.1 hs]; exact Itm.enc_ne _
          · exact ih _ _ s hs
      · rw [Tr.elems_ext f rfl h0] at hs
        split at hs
        · rcases List.mem_cons.1 hs with rfl | hs
          · exact Itm.enc_ne _
          · exact ih _ _ s hs
        · cases hs

/-- The elements of a proof have bytes. -/
theorem proofB_full {l : List (ByteArray × ByteArray)} (key : ByteArray) : ∀ s ∈ proofB l key, 0 < s.size := by
  intro s hs
  obtain ⟨x, hx, rfl⟩ := List.mem_map.1 hs
  show 0 < x.toArray.size
  rw [List.size_toArray]
  refine List.length_pos_iff.2 ?_
  rcases List.mem_cons.1 hx with rfl | hx
  · exact Itm.enc_ne _
  · exact elems_full _ _ _ x hx

/-- Another text in a row of texts. -/
theorem srd_set {B : Nat} {w : World} {b off : Nat} {l : List ByteArray} (h : SRd B w (some ⟨b, off, none⟩) l) (i : Nat) (s : ByteArray) : SRd B (w.setCell ⟨b, off + i, none⟩ (.string s)) (some ⟨b, off, none⟩) (l.set i s) := by
  intro j hj
  rw [List.length_set] at hj
  obtain ⟨b', off', e, hlt, hc⟩ := h j hj
  cases e
  refine ⟨b, off, rfl, hlt, ?_⟩
  cases hb : w.heap[b]? with
  | none => simp [World.cell?, hb] at hc
  | some o =>
    cases o with
    | cells cs t fr =>
      have hh : (w.setCell ⟨b, off + i, none⟩ (.string s)).heap[b]? = some (.cells (cs.setIfInBounds (off + i) (.string s)) t fr) := by
        unfold World.setCell
        rw [Array.getElem?_modify, if_pos rfl, hb]
        rfl
      rw [cell_of_row _ _ _ _ _ _ hb] at hc
      have hsz : off + j < cs.size := (Array.getElem?_eq_some_iff.1 hc).1
      rw [cell_of_row _ _ _ _ _ _ hh, List.getElem_set]
      by_cases hij : i = j
      · subst hij
        rw [if_pos rfl, Array.getElem?_setIfInBounds_self_of_lt hsz]
      · rw [if_neg hij, Array.getElem?_setIfInBounds_ne (by omega)]
        exact hc
    | _ => simp [World.cell?, hb] at hc

theorem srd_take {B : Nat} {w : World} {a : Option Addr} {l : List ByteArray} (h : SRd B w a l) (i : Nat) : SRd B w a (l.take i) := by
  intro j hj
  rw [List.length_take] at hj
  obtain ⟨b2, off2, e, hlt, c0⟩ := h j (by omega)
  exact ⟨b2, off2, e, hlt, by rw [List.getElem_take]; exact c0⟩

theorem srd_cells {w : World} {l : List ByteArray} {B : Nat} {p : Addr} (h : SRd B w (some p) l) : ∀ j u, (tcells l)[j]? = some u → w.cell? (p.add j) = some u := by
  intro j u hu
  have hj : j < l.length := by rw [← tcells_len]; exact (List.getElem?_eq_some_iff.1 hu).1
  obtain ⟨b, off, e, _, c0⟩ := h j hj
  cases e
  have hadd : (⟨b, off, none⟩ : Addr).add j = ⟨b, off + j, none⟩ := by unfold Addr.add; split <;> simp_all
  rw [tcells_at l j hj] at hu
  cases hu
  rw [hadd]; exact c0

/-- Texts that can be read are appended to a row of the call's own: for a walk. -/
theorem wpList_append_texts {ops : Array Oper} {rest : List Oper} {o : Oper} {act : Act} {Q : Exit → Act → World → Prop} (w : World) (hgd : o.guard = none) (s x : Operand)
    (hop : o.op = .call { callee := .builtin .append, args := #[s, x], argTypes := #[34, 34] })
    (base B : Nat) (v1 : Value) (a2 : Option Addr) (c2 : Nat) (l1 l2 : List ByteArray) (hs : act.eval s = v1) (hx : act.eval x = .slice a2 l2.length c2) (h1 : TOwn w base v1 l1) (h2 : SRd B w a2 l2) (hn : a2 = none → l2.length = 0 ∧ c2 = 0) (hlen : l1.length + l2.length ≤ 1000000) (hbase : base ≤ w.heap.size)
    (h : ∀ v' w', TOwn w' base v' (l1 ++ l2) → w.grownBy w' v1.ownBlock → Newer w v1 v' → wpList Try.prog ops Q rest (act.put o.dst v') w') :
    wpList Try.prog ops Q (o :: rest) act w := by
  obtain ⟨i0, hi, hz0, hz1, hz2⟩ := info_parts infoText
  cases a2 with
  | none =>
    obtain ⟨e1, e2⟩ := hn rfl
    obtain rfl : l2 = [] := List.eq_nil_of_length_eq_zero e1
    subst e2
    refine wpList_plain hgd fun K hK => ?_
    have hr := run_append_owned_none (P := Try.prog) w base 34 o.type 9 i0 1 Try.underlying34 hi v1 _ _ h1
    unfold Oper.wp execOp
    simp only [hop, resolve, invoke, builtin, Sem.run_bind, Sem.run_pure, Result.andThen_ok, List.map_toArray, List.map_cons, List.map_nil, hs, hx, List.length_nil, hr]
    exact hK _ _ (h v1 w (by rw [List.append_nil]; exact h1) (World.grownBy.refl _ _) (.inl rfl))
  | some p =>
    refine wpList_append_mine w hgd s x 34 hop base 9 i0 _ 1 16 Try.underlying34 hi hz0 hz1 hz2 rfl (by decide) v1 l1.length (tcells l1) hs h1 p l2.length c2 (tcells l2) hx (by rw [tcells_len]; omega) (srd_cells h2) (tcells_one l2) (by unfold maxLen; omega) (by omega) hbase ?_
    intro v' w' ho hg hn
    refine h v' w' ?_ hg hn
    unfold TOwn
    rw [List.length_append, show tcells (l1 ++ l2) = tcells l1 ++ tcells l2 by simp [tcells]]
    exact ho
end Go.Proofs.Ytbmohenjphmlgaa
