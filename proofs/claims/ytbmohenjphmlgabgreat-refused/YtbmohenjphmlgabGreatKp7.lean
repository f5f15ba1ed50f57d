/- The walks of Heads, of a walk that finds nothing, and of Get and Offer that are refused (of the program). -/
import Derived.Test.YtbmohenjphmlgabGreatKp6
import Derived.Maps.Own
namespace Go.Proofs.YtbmohenjphmlgabGreat
open Go.RowKit
set_option maxRecDepth 100000

theorem hrd_cells {w : World} {a : Option Addr} {l : List (Int × ByteArray)} {B b off : Nat} (h : HRd B w a l) (ha : a = some ⟨b, off, none⟩) : ∀ j u, (hcells l)[j]? = some u → w.cell? ((⟨b, off, none⟩ : Addr).add j) = some u := by
  intro j u hu
  have hj : j < l.length * 2 := by rw [← hcells_len]; exact (List.getElem?_eq_some_iff.1 hu).1
  have hadd : (⟨b, off, none⟩ : Addr).add j = ⟨b, off + j, none⟩ := by unfold Addr.add; split <;> simp_all
  have hi : j / 2 < l.length := by omega
  obtain ⟨b', off', e, _, c0, c1⟩ := h (j / 2) hi
  rw [ha] at e
  simp only [Option.some.injEq, Addr.mk.injEq, and_true] at e
  obtain ⟨rfl, rfl⟩ := e
  have e2 := hcells_at l (j / 2) hi
  rw [hadd]
  rcases Nat.mod_two_eq_zero_or_one j with h0 | h0
  · rw [show j = j / 2 * 2 by omega] at hu ⊢
    rw [e2.1] at hu; cases hu; exact c0
  · rw [show j = j / 2 * 2 + 1 by omega] at hu ⊢
    rw [e2.2] at hu; cases hu; exact c1

theorem hcells_one (l : List (Int × ByteArray)) : ∀ u ∈ hcells l, u.oneCell' = true := by
  intro u hu
  unfold hcells at hu
  rw [List.mem_flatMap] at hu
  obtain ⟨p, _, hp⟩ := hu
  rcases List.mem_cons.1 hp with rfl | hp
  · rfl
  · rcases List.mem_cons.1 hp with rfl | hp
    · rfl
    · cases hp

theorem empty_row (w : World) (e : TypeId) (size : Nat) : (w.alloc (.cells #[] e)).ownsRow w.heap.size e size (.slice (some ⟨w.heap.size, 0, none⟩) 0 0) 0 [] :=
  ⟨by simp, .inr ⟨w.heap.size, 0, #[], rfl, Nat.le_refl _, heap_alloc_new w _, Nat.le_refl _, by unfold maxLen; omega, by simp, by simp⟩⟩

theorem nil_is (w : World) : (binOp .eql 55 (.slice none 0 0) (.slice none 0 0)).run Tryz.prog w = .ok (.bool true) w := by rfl
theorem nil_not (w : World) (p : Addr) (n cap : Nat) : (binOp .eql 55 (.slice (some p) n cap) (.slice none 0 0)).run Tryz.prog w = .ok (.bool false) w := by rfl

set_option maxHeartbeats 1600000 in
theorem cloneHeads_any (a : Option Addr) (cap : Nat) (l : List (Int × ByteArray)) (w : World) (hr : HRd w.heap.size w a l) (hl : l.length ≤ 1000) (hn : a = none → l.length = 0 ∧ cap = 0) : Calls Tryz.prog 60 #[.slice a l.length cap] w fun e w' => ∃ v', e = .returned v' ∧ HOwn w' w.heap.size v' l ∧ Below w.heap.size w w' := by
  cases a with
  | none =>
    obtain ⟨h0, rfl⟩ := hn rfl
    obtain rfl : l = [] := List.eq_nil_of_length_eq_zero h0
    have hnil := nil_is
    clear hr hl hn
    go_enter Tryz.func60, Tryz.ntmps60
    go_wp2_with fail
    go_ret
    exact ⟨_, rfl, hown_nil _ _, Below.refl _ _⟩
  | some p =>
    obtain ⟨i0, hi, hz0, hz1, hz2⟩ := info_parts infoHead
    have HNW : Hid (∀ j u, (hcells l)[j]? = some u → (w.alloc (.cells #[] 58)).cell? (p.add j) = some u) := by
      intro j u hu
      have hj : j < l.length * 2 := by rw [← hcells_len]; exact (List.getElem?_eq_some_iff.1 hu).1
      obtain ⟨b, off, e, hb, _⟩ := hr 0 (by omega)
      cases e
      have hadd : (⟨b, off, none⟩ : Addr).add j = ⟨b, off + j, none⟩ := by unfold Addr.add; split <;> simp_all
      have := hrd_cells hr rfl j u hu
      rw [hadd] at this ⊢
      exact (World.cell?_of_block (w := w) (Below.heap_alloc _ _ _ hb)).trans this
    have hnot := fun w => nil_not w p l.length cap
    clear hr hn
    go_enter Tryz.func60, Tryz.ntmps60
    go_wp2_with (at_builtin; go_loud (refine wpList_append_mine _ rfl (.tmp 5) (.tmp 6) 55 rfl w.heap.size 58 i0 _ 2 24 Tryz.underlying55 hi hz0 hz1 hz2 rfl (by decide) (.slice (some ⟨w.heap.size, 0, none⟩) 0 0) 0 [] rfl (empty_row _ _ _) p l.length cap (hcells l) rfl (hcells_len l) HNW.out (hcells_one l) (by unfold maxLen; omega) (by omega) (by rw [alloc_size]; omega) ?_); intro v' w' ho' hg' hn'; have HO := hid ho'; have HG := hid hg'; clear ho' hg' hn')
    go_ret
    refine ⟨v', rfl, ?_, ((Below.refl _ _).alloc (Nat.le_refl _) _).grown HG.out (by rw [alloc_size]; omega) (fun k hk => by cases hk; exact Nat.le_refl _)⟩
    have := HO.out
    rw [Nat.zero_add, List.nil_append] at this
    exact this

theorem hown_none {w : World} {b : Nat} {n cap : Nat} {a : Option Addr} {l : List (Int × ByteArray)} (h : HOwn w b (.slice a n cap) l) : a = none → l.length = 0 ∧ cap = 0 := by
  intro ha
  rcases h.2 with ⟨hv, h0⟩ | ⟨g, cap', cur, hv, _⟩
  · simp only [Value.slice.injEq] at hv; exact ⟨h0, hv.2.2⟩
  · simp only [Value.slice.injEq] at hv; rw [ha] at hv; cases hv.1

theorem heads_in (k1 base : Nat) (a : Option Addr) (cap : Nat) (l : List (Int × ByteArray)) (y : Value) (w : World) (hk : w.heap[k1]? = some (.cells #[.slice a l.length cap, y] 77 (0, 0))) (ho : HOwn w base (.slice a l.length cap) l) (hl : l.length ≤ 8) :
    Calls Tryz.prog 38 #[.pointer (some ⟨k1, 0, none⟩)] w fun e w' => ∃ v', e = .returned v' ∧ HOwn w' w.heap.size v' l ∧ Below w.heap.size w w' := by
  have HC := hid (cloneHeads_any a cap l w (hown_rd ho) (by omega) (hown_none ho))
  have c0 := cell_of_row _ _ 0 _ _ _ hk
  clear hk ho
  go_enter Tryz.func38, Tryz.ntmps38
  go_wp2_with fail
  refine HC.out.mono ?_
  rintro e w1 ⟨v', rfl, o1, b1⟩
  have HO := hid o1
  have HB := hid b1
  clear o1 b1
  go_wp2_with fail
  go_ret
  exact ⟨_, rfl, HO.out, HB.out⟩

theorem heads_any (k0 k1 base : Nat) (a : Option Addr) (cap : Nat) (l : List (Int × ByteArray)) (y : Value) (w : World) (h0 : w.heap[k0]? = some (.cells #[.pointer (some ⟨k1, 0, none⟩)] 63 (0, 0))) (hk : w.heap[k1]? = some (.cells #[.slice a l.length cap, y] 77 (0, 0))) (ho : HOwn w base (.slice a l.length cap) l) (hl : l.length ≤ 8) :
    Calls Tryz.prog 24 #[.pointer (some ⟨k0, 0, none⟩)] w fun e w' => ∃ v', e = .returned v' ∧ HOwn w' w.heap.size v' l ∧ Below w.heap.size w w' := by
  have HC := hid (heads_in k1 base a cap l y w hk ho hl)
  have c0 := cell_of_row _ _ 0 _ _ _ h0
  clear hk ho h0
  go_enter Tryz.func24, Tryz.ntmps24
  go_wp2_with fail
  refine HC.out.mono ?_
  rintro e w1 ⟨v', rfl, o1, b1⟩
  have HO := hid o1
  have HB := hid b1
  clear o1 b1
  go_wp2_with fail
  go_ret
  exact ⟨_, rfl, HO.out, HB.out⟩

theorem found_at {l : List (Int × ByteArray)} {x : Int} {r0 : ByteArray} {p : Nat} (hs : Rises l) (hx : (x, r0) ∈ l) (p2 : ∀ i, (h : i < l.length) → i < p → l[i].1 < x) (p3 : ∀ i, (h : i < l.length) → p ≤ i → x ≤ l[i].1) : ∃ h : p < l.length, l[p].1 = x ∧ l[p].2 = r0 := by
  obtain ⟨j, hj, hjl⟩ := List.getElem_of_mem hx
  have hj1 : l[j].1 = x := by rw [hjl]
  have : j = p := by
    rcases Nat.lt_trichotomy j p with h | h | h
    · have := p2 j hj h; omega
    · exact h
    · have := hs.at (i := p) (j := j) h hj
      have := p3 p (by omega) (Nat.le_refl _); omega
  subst this
  exact ⟨hj, hj1, by rw [hjl]⟩

/-- A walk whose finder finds nothing at the root. -/
theorem walk_none (g : Nat) (lb : Array Value) (r : ByteArray) (d : ByteArray) (w : World) (eg : ∀ args w, (callFunc g args).run Tryz.prog w = .ok (.enter g args) w)
    (hf : ∀ W, Below w.heap.size w W → Calls Tryz.prog g (#[.agg #[.string r, .nilIface]] ++ lb) W fun e w' => e = .returned (.tuple #[.nilIface, .bool false]) ∧ Below W.heap.size W w') :
    Calls Tryz.prog 74 #[.agg #[.string r, .nilIface], .string d, .func (.func g) #[] lb] w fun e w' => e = .returned (.tuple #[.string ⟨#[]⟩, .bool false]) ∧ Below w.heap.size w w' := by
  have HF := hid hf
  clear hf
  go_enter Tryz.func74, Tryz.ntmps74
  go_wp2_with (go_at_fn g; refine (HF.out _ ((Below.refl _ _).alloc (Nat.le_refl _) _)).mono ?_; rintro e w1 ⟨rfl, b1⟩; have HB : Hid (Below w.heap.size w w1) := ((Below.refl _ _).alloc (Nat.le_refl _) _).trans (b1.mono (by rw [alloc_size]; omega)); clear b1)
  go_loopw [7] (fun v wr => v = .bool false ∧ wr = w1) (fun _ _ => 0)
  case atStart => exact ⟨rfl, rfl⟩
  case round =>
    obtain ⟨rfl, rfl⟩ := hrel
    go_wp2_with fail
    go_ret2
    exact ⟨rfl, HB.out⟩

set_option maxHeartbeats 1600000 in
theorem tell_key (k2 : Nat) (r key : ByteArray) (w : World) (h : 6 < key.size) : Calls Tryz.prog 54 #[.pointer (some ⟨k2, 0, none⟩), .string r, .string key] w fun e w' => e = .returned (.tuple #[.string ⟨#[]⟩, .bool false, .int .i64 3]) ∧ Below w.heap.size w w' := by
  have HK := hid (fun s w => isLongKey_any s w)
  have h' : (6 : Int) < key.size := by omega
  go_enter Tryz.func54, Tryz.ntmps54
  go_wp2_with fail
  refine (HK.out _ _).mono ?_
  rintro e w1 ⟨rfl, rfl⟩
  rw [decide_eq_true h']
  go_wp2_with fail
  refine bodyPost_ret (v := .tuple #[.string ⟨#[]⟩, .bool false, .int .i64 3]) (by simp [results, Tryz.results54, go_sem]) rfl ?_
  exact ⟨rfl, (Below.refl _ _).alloc (Nat.le_refl _) _⟩

theorem lookup_empty (w : World) (b : Nat) (s : ByteArray) (hs : s.size ≤ maxLen) (h : w.heap[b]? = some (.map #[] 0)) : (Instr.lookup 116 (.map (some b)) (.string s) true).run Tryz.prog w = .ok (.tuple #[.nilIface, .bool false]) w := by
  rcases Go.Maps.fit_look (H := Unit) (R := fun _ => none) (es := #[]) (clock := 0) true (Go.Maps.string_keyed Tryz.underlying9) Tryz.underlying116 (z := .nilIface) (by kernel_rfl) h ⟨by simp, Go.MapKept.stamped_empty 0, by simp⟩ (Go.WideMaps.keyOf_string_mk Tryz.underlying9 hs) with ⟨hr, _⟩ | ⟨e0, _, he, _⟩
  · exact hr
  · simp at he

theorem belowN {B n : Nat} {a w : World} (h : Below B a w) : Below B a (w.drewN n) := ⟨h.os, h.tape, h.output, h.size, h.block⟩

/-- The finder of Tell finds nothing in a store that keeps nothing. -/
theorem tell1_empty (kb k2 k3 : Nat) (r : ByteArray) (y : Value) (w : World) (hr : r.size ≤ 1000) (hb : w.cell? ⟨kb, 0, none⟩ = some (.pointer (some ⟨k2, 0, none⟩))) (h2 : w.cell? ⟨k2, 0, none⟩ = some (.map (some k3))) (h3 : w.heap[k3]? = some (.map #[] 0)) (hk : kb < w.heap.size) (hk2 : k2 < w.heap.size) :
    Calls Tryz.prog 78 #[.agg #[.string r, y], .pointer (some ⟨kb, 0, none⟩)] w fun e w' => e = .returned (.tuple #[.nilIface, .bool false]) ∧ Below w.heap.size w w' := by
  have hlk := fun W h => lookup_empty W k3 r (by unfold maxLen; omega) h
  have c1 : (w.alloc (.cells #[.string r, y] 109)).cell? ⟨kb, 0, none⟩ = some (.pointer (some ⟨k2, 0, none⟩)) := (World.cell?_of_block (w := w) (Below.heap_alloc _ _ _ hk)).trans hb
  have c2 : (w.alloc (.cells #[.string r, y] 109)).cell? ⟨k2, 0, none⟩ = some (.map (some k3)) := (World.cell?_of_block (w := w) (Below.heap_alloc _ _ _ hk2)).trans h2
  have c3 : (w.alloc (.cells #[.string r, y] 109)).heap[k3]? = some (.map #[] 0) := (Below.heap_alloc _ _ _ (Array.getElem?_eq_some_iff.1 h3).1).trans h3
  have c4 : (w.alloc (.cells #[.string r, y] 109)).cell? ⟨w.heap.size, 0, none⟩ = some (.string r) := cell_of_row _ _ 0 _ _ _ (heap_alloc_new w _)
  have hl := fun n => hlk ((w.alloc (.cells #[.string r, y] 109)).drewN n) c3
  have HB : Hid (Below w.heap.size w (w.alloc (.cells #[.string r, y] 109))) := (Below.refl _ _).alloc (Nat.le_refl _) _
  clear hlk hb h2 h3 c3
  go_enter Tryz.func78, Tryz.ntmps78
  go_wp2_with fail
  generalize hW : w.alloc (.cells #[.string r, y] 109) = W at *
  go_quiet (fail)
  go_wp2_with fail
  go_ret2
  exact ⟨rfl, belowN HB.out⟩

set_option maxHeartbeats 1600000 in
/-- Tell of a store that keeps nothing. -/
theorem tell_empty (k2 k3 : Nat) (r key : ByteArray) (w : World) (h : key.size ≤ 6) (hr : r.size ≤ 1000) (h2 : w.heap[k2]? = some (.cells #[.map (some k3)] 118 (0, 0))) (h3 : w.heap[k3]? = some (.map #[] 0)) : Calls Tryz.prog 54 #[.pointer (some ⟨k2, 0, none⟩), .string r, .string key] w fun e w' => e = .returned (.tuple #[.string ⟨#[]⟩, .bool false, .int .i64 11]) ∧ Below w.heap.size w w' := by
  have HK := hid (fun s w => isLongKey_any s w)
  have HD := hid (fun w => digitsOf_any key w (by omega))
  have HW := hid (fun d W hf => walk_none 78 #[.pointer (some ⟨w.heap.size, 0, none⟩)] r d W (enters_of Tryz.func78 (by kernel_rfl) rfl) hf)
  have HT := hid (fun W hb h2 h3 hk hk2 => tell1_empty w.heap.size k2 k3 r .nilIface W hr hb h2 h3 hk hk2)
  have H2 := hid h2
  have H3 := hid h3
  have HL : Hid (decide ((6 : Int) < key.size) = false) := decide_eq_false (by omega)
  clear h2 h3
  go_enter Tryz.func54, Tryz.ntmps54
  go_wp2_with fail
  refine (HK.out _ _).mono ?_
  rintro e w1 ⟨rfl, hw⟩
  obtain rfl := hw.symm
  rw [HL.out]
  go_wp2_with fail
  refine (HD.out _).mono ?_
  rintro e w2 ⟨rfl, b2⟩
  have HA : Hid (Below w.heap.size w (w.alloc (.cells #[.pointer (some ⟨k2, 0, none⟩)] 74))) := (Below.refl _ _).alloc (Nat.le_refl _) _
  have HB2 : Hid (Below w.heap.size w w2) := HA.out.trans (b2.mono HA.out.size)
  have HX2 : Hid (w2.heap[w.heap.size]? = some (.cells #[.pointer (some ⟨k2, 0, none⟩)] 74 (0, 0))) := (b2.block _ (by rw [alloc_size]; omega)).trans (heap_alloc_new w _)
  have HF : Hid (∀ W, Below w2.heap.size w2 W → Calls Tryz.prog 78 (#[.agg #[.string r, .nilIface]] ++ #[.pointer (some ⟨w.heap.size, 0, none⟩)]) W fun e w' => e = .returned (.tuple #[.nilIface, .bool false]) ∧ Below W.heap.size W w') := fun W hb => by
    have hx := (hb.block _ (Array.getElem?_eq_some_iff.1 HX2.out).1).trans HX2.out
    have hk2 := (HB2.out.block _ (Array.getElem?_eq_some_iff.1 H2.out).1).trans H2.out
    have hk3 := (HB2.out.block _ (Array.getElem?_eq_some_iff.1 H3.out).1).trans H3.out
    have hk2' := (hb.block _ (Array.getElem?_eq_some_iff.1 hk2).1).trans hk2
    have hk3' := (hb.block _ (Array.getElem?_eq_some_iff.1 hk3).1).trans hk3
    exact HT.out W (cell_of_row _ _ 0 _ _ _ hx) (cell_of_row _ _ 0 _ _ _ hk2') hk3' (Array.getElem?_eq_some_iff.1 hx).1 (Array.getElem?_eq_some_iff.1 hk2').1
  clear b2 HT
  go_wp2_with fail
  refine (HW.out _ _ HF.out).mono ?_
  rintro e w3 ⟨rfl, b3⟩
  have HB3 : Hid (Below w.heap.size w w3) := HB2.out.trans (b3.mono HB2.out.size)
  clear b3
  go_wp2_with fail
  refine bodyPost_ret (v := .tuple #[.string ⟨#[]⟩, .bool false, .int .i64 11]) (by simp [results, Tryz.results54, go_sem]) rfl ?_
  exact ⟨rfl, HB3.out⟩

/-- Get at a height that is trusted hands on to the store. -/
theorem get_in {k1 k2 : Nat} {a : Option Addr} {cap : Nat} {l : List (Int × ByteArray)} {x : Int} {key r0 : ByteArray} {w : World} {Q : ByteArray → Bool → Int → World → Prop}
    (hk : w.heap[k1]? = some (.cells #[.slice a l.length cap, .pointer (some ⟨k2, 0, none⟩)] 77 (0, 0))) (hr : HRd w.heap.size w a l) (hl : l.length ≤ 8) (hs : Rises l) (hx : (x, r0) ∈ l)
    (h : ∀ W, Below w.heap.size w W → Calls Tryz.prog 54 #[.pointer (some ⟨k2, 0, none⟩), .string r0, .string key] W fun e w' => ∃ s b n, e = .returned (.tuple #[.string s, .bool b, .int .i64 n]) ∧ Q s b n w' ∧ Below W.heap.size W w') :
    Calls Tryz.prog 34 #[.pointer (some ⟨k1, 0, none⟩), .int .i64 x, .string key] w fun e w' => ∃ s b n, e = .returned (.tuple #[.string s, .bool b, .int .i64 n]) ∧ Q s b n w' ∧ Below w.heap.size w w' := by
  have HP := hid (place_any k1 a cap l _ x w hk hr (by omega) hs)
  have HRD := hid hr
  have HS := hid hs
  have HX := hid hx
  have HK := hid hk
  have HT := hid h
  clear hk hr hs hx h
  go_enter Tryz.func34, Tryz.ntmps34
  go_wp2_with fail
  refine HP.out.mono ?_
  rintro e w2 ⟨⟨p, rfl, p1, p2, p3⟩, b2⟩
  obtain ⟨hp, hp1, hp2⟩ := found_at HS.out HX.out p2 p3
  rw [decide_eq_true (⟨hp, hp1⟩ : ∃ h : p < l.length, l[p].1 = x)]
  obtain ⟨b, off, rfl, hb, e0, e1⟩ := HRD.out p hp
  rw [hp2] at e1
  have f1 := (b2.cell (p := ⟨b, off + p * 2 + 1, none⟩) hb).trans e1
  have c0 := (b2.cell (p := ⟨k1, 0, none⟩) (Array.getElem?_eq_some_iff.1 HK.out).1).trans (cell_of_row _ _ 0 _ _ _ HK.out)
  have c1 := (b2.cell (p := ⟨k1, 1, none⟩) (Array.getElem?_eq_some_iff.1 HK.out).1).trans (cell_of_row _ _ 1 _ _ _ HK.out)
  have i1 : (0 : Int) ≤ (p : Int) := by omega
  have i2 : (p : Int) < (l.length : Int) := by omega
  have HB := hid b2
  have hk1 : k1 < w2.heap.size := Nat.lt_of_lt_of_le (Array.getElem?_eq_some_iff.1 HK.out).1 b2.size
  have hb1 : b < w2.heap.size := Nat.lt_of_lt_of_le hb b2.size
  clear e0 e1 p1 p2 p3 b2 hp1 hp2
  go_wp2_with fail
  go_region_held3 (fun w' => w'.cell? ⟨k1, 0, none⟩ = some (.slice (some ⟨b, off, none⟩) l.length cap) ∧ w'.cell? ⟨k1, 1, none⟩ = some (.pointer (some ⟨k2, 0, none⟩)) ∧ w'.cell? ⟨b, off + p * 2 + 1, none⟩ = some (.string r0)) (go_keep) ((go_at_call 54; refine (HT.out _ HB.out.drew).mono ?_; rintro e w3 ⟨s, bb, n, rfl, q, b3⟩; have HQ := hid q; have HB3 : Hid (Below w.heap.size w w3) := HB.out.drew.trans (b3.mono HB.out.size); have z0 := (b3.cell (p := ⟨k1, 0, none⟩) hk1).trans c0; have z1 := (b3.cell (p := ⟨k1, 1, none⟩) hk1).trans c1; have z2 := (b3.cell (p := ⟨b, off + p * 2 + 1, none⟩) hb1).trans f1; clear q b3))
  all_goals go_wp2_with fail
  all_goals refine bodyPost_ret (v := .tuple #[.string s, .bool bb, .int .i64 n]) (by simp [results, Tryz.results34, go_sem]) rfl ?_
  all_goals exact ⟨s, bb, n, rfl, HQ.out, HB3.out⟩

end Go.Proofs.YtbmohenjphmlgabGreat
