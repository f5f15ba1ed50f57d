/- Part 21 of a proof: what the last text needs. -/
import Derived.Test.YtbmohenjphmlgaaPart20
import Derived.Test.YtbmohenjphmlgaaPart2
import Derived.Deep.RegionHeld3
import Derived.Deep.Cut
import Derived.Test.YtbmohenjphmlgaaPart14
import Derived.Test.YtbmohenjphmlgaaPart4
import Derived.Test.YtbmohenjphmlgaaPart5
/- The walk of common (of the document's own answer); path, for any digits. -/
namespace Go.Proofs.Ytbmohenjphmlgaa
open Go.RowKit
set_option maxRecDepth 100000

theorem pathR_any (a : Option Addr) (cap : Nat) (l : List UInt8) (leaf : Bool) (w : World) (hr : BrdC w.heap.size w (.slice a l.length cap) l) (h16 : ∀ c ∈ l, c.toNat < 16) (hl : l.length ≤ 1000000) :
    Calls Try.prog 76 #[.slice a l.length cap, .bool leaf] w fun e w' => e = .returned (.string ⟨(Tr.path l leaf).toArray⟩) ∧ Below w.heap.size w w' := by
  by_cases hev : l.length % 2 = 0
  · exact pathR_even a cap l leaf w hr.brd h16 hl hev
  · cases l with
    | nil => simp at hev
    | cons d0 R =>
      have hX := hr.brdX (P := fun _ => True) (fun _ _ => trivial)
      rcases hr with ⟨_, h⟩ | ⟨b, off, cap', hv, _⟩
      · cases h
      · simp only [Value.slice.injEq] at hv
        obtain ⟨rfl, _, rfl⟩ := hv
        simp only [List.length_cons] at hev hl
        exact pathR_odd b off cap d0 R leaf w hX h16 (by omega) (by omega)

/-- All begin alike with the first m digits of e. -/
def Alike (e : Tr.Ent) (l : List Tr.Ent) (m : Nat) : Prop := ∀ x ∈ l, m ≤ x.dig.length ∧ x.dig.take m = e.dig.take m

theorem alike_next {e : Tr.Ent} {l : List Tr.Ent} {m : Nat} (h : Alike e l m) (he : m < e.dig.length) (hn : ∀ i (hi : i < l.length), ∃ hm : m < l[i].dig.length, l[i].dig[m] = e.dig[m]) : Alike e l (m + 1) := by
  intro x hx
  obtain ⟨i, hi, rfl⟩ := List.getElem_of_mem hx
  obtain ⟨hm, hv⟩ := hn i hi
  refine ⟨by omega, ?_⟩
  rw [List.take_succ_eq_append_getElem hm, List.take_succ_eq_append_getElem he, (h _ hx).2, hv]

theorem alike_end {e : Tr.Ent} {l : List Tr.Ent} {m i : Nat} (h : Alike e (e :: l) m) (hi : i < (e :: l).length) (hb : (e :: l)[i].dig.length ≤ m ∨ (e :: l)[i].dig[m]? ≠ e.dig[m]?) : (Tr.shared (e :: l)).length = m := by
  rw [Tr.shared_eq e l m h _ (List.getElem_mem hi) hb, List.length_take]
  have := (h e (List.mem_cons_self ..)).1
  omega

set_option maxHeartbeats 6400000 in
theorem commonR_any (a : Option Addr) (cap : Nat) (e0 : Tr.Ent) (l : List Tr.Ent) (w : World) (hr : ERd w.heap.size w a (e0 :: l)) (hl : l.length ≤ 1000) (hd : ∀ e ∈ e0 :: l, e.dig.length ≤ 1000000) :
    Calls Try.prog 59 #[.slice a (l.length + 1) cap] w fun e w' => e = .returned (.int .i64 ((Tr.shared (e0 :: l)).length : Nat)) ∧ Below w.heap.size w w' := by
  have HR := hid hr
  have HD := hid hd
  obtain ⟨b, off, ad, cd, rfl, hb, e1, _, hbr0⟩ := hr 0 (by simp)
  rw [Nat.zero_mul, Nat.add_zero] at e1
  have HBR := hid hbr0
  have HE1 := hid e1
  have HL0 : Hid ((e0 :: l).length = l.length + 1) := rfl
  obtain ⟨L, hL⟩ : ∃ L, L = e0 :: l := ⟨_, rfl⟩
  have HLL := hid hL
  rw [← hL] at HR HD HL0
  have HE0 : Hid (L[0]? = some e0) := by rw [Hid, hL]; rfl
  have hd0 := hd e0 (List.mem_cons_self ..)
  simp only [List.getElem_cons_zero] at e1 HBR HE1
  clear hr hd hbr0 hL e1
  go_enter Try.func59, Try.ntmps59
  go_wp2_with fail
  go_loopw [3] (fun n wr => ∃ m : Nat, n = .int .i64 m ∧ Hid (m ≤ e0.dig.length ∧ Alike e0 L m ∧ Below w.heap.size w wr)) (fun n _ => e0.dig.length + 1 - (intOf n).toNat)
  case atStart => exact ⟨0, rfl, Nat.zero_le _, fun x _ => ⟨Nat.zero_le _, rfl⟩, Below.refl _ _⟩
  case round =>
    obtain ⟨m, rfl, HM⟩ := hrel
    have hm0 := HM.out.1
    go_wp2_with fail
    go_loopw [4] (fun i wi => ∃ k : Nat, i = .int .i64 k ∧ k ≤ l.length + 1 ∧ Hid ((∀ j (hj : j < L.length), j < k → ∃ hm : m < L[j].dig.length, L[j].dig[m]? = e0.dig[m]?) ∧ Below w.heap.size w wi)) (fun i _ => l.length + 1 - (intOf i).toNat)
    case atStart => exact ⟨0, rfl, Nat.zero_le _, fun j _ h => by omega, HM.out.2.2⟩
    case round =>
      obtain ⟨k, rfl, hk, HH⟩ := hrel
      by_cases hlt : k < l.length + 1
      · have hltL : k < L.length := by rw [HL0.out]; exact hlt
        obtain ⟨b', off', ak, ck, hab, hbk, f0, _, hbrk⟩ := HR.out k hltL
        simp only [Option.some.injEq, Addr.mk.injEq, and_true] at hab
        obtain ⟨rfl, rfl⟩ := hab
        have g0 := (HH.out.2.cell (p := ⟨b, off + k * 2, none⟩) hb).trans f0
        have g00 := (HH.out.2.cell (p := ⟨b, off, none⟩) hb).trans HE1.out
        have hbrk2 := hbrk.frame HH.out.2
        have hbr02 := HBR.out.frame HH.out.2
        have i1 : (0 : Int) ≤ (k : Int) := by omega
        have i2 : (k : Int) < (l.length : Int) + 1 := by omega
        have i3 : (0 : Int) < (l.length : Int) + 1 := by omega
        have i4 : (0 : Int) ≤ (m : Int) := by omega
        have HEND : Hid (L[k].dig.length ≤ m ∨ L[k].dig[m]? ≠ e0.dig[m]? → (Tr.shared (e0 :: l)).length = m) := by
          intro h
          have ha := HM.out.2.1
          have hl2 := HLL.out
          subst hl2
          exact alike_end ha hltL h
        have hK0 : k = 0 → L[k] = e0 := by
          intro h0
          subst h0
          have := HE0.out
          rw [List.getElem?_eq_getElem hltL] at this
          exact Option.some.inj this
        have hM0 : ¬ L[k].dig.length ≤ m → m < e0.dig.length := by
          intro h
          by_cases h0 : k = 0
          · rw [← hK0 h0]; omega
          · obtain ⟨hm1, _⟩ := HH.out.1 0 (by omega) (by omega)
            have h2 := HE0.out
            rw [List.getElem?_eq_getElem (by omega : 0 < L.length)] at h2
            rw [Option.some.inj h2] at hm1
            exact hm1
        have HNX : Hid (∀ (hm : m < L[k].dig.length), L[k].dig[m]? = e0.dig[m]? → ∀ j (hj : j < L.length), j < k + 1 → ∃ hm : m < L[j].dig.length, L[j].dig[m]? = e0.dig[m]?) := by
          intro hm hv j hj hjk
          by_cases h : j < k
          · exact HH.out.1 j hj h
          · obtain rfl : j = k := by omega
            exact ⟨hm, hv⟩
        have hdk := HD.out _ (List.getElem_mem hltL)
        have HB := hid HH.out.2
        clear f0 hbrk HH hK0
        generalize L[k] = x at *
        by_cases hA : x.dig.length ≤ m
        · have HRES := hid (HEND.out (.inl hA))
          have i5 : (x.dig.length : Int) ≤ (m : Int) := by omega
          clear hbrk2 hbr02 HEND hM0 HNX
          go_wp2_with fail
          go_quiet (fail)
          go_wp2_with fail
          go_ret
          exact ⟨by rw [HRES.out]; rfl, below_drewN HB.out _⟩
        · have hme := hM0 hA
          have hmx : m < x.dig.length := by omega
          have i5 : ¬ (x.dig.length : Int) ≤ (m : Int) := by omega
          have i6 : (m : Int) < (x.dig.length : Int) := by omega
          have i7 : (m : Int) < (e0.dig.length : Int) := by omega
          rcases hbrk2 with ⟨_, h⟩ | ⟨bk, ok, ck', hvk, _, hltk, hck⟩
          · rw [h] at hmx; simp at hmx
          rcases hbr02 with ⟨_, h⟩ | ⟨b0, o0, c0', hv0, _, hlt0, hc0⟩
          · rw [h] at hme; simp at hme
          simp only [Value.slice.injEq] at hvk hv0
          obtain ⟨rfl, _, rfl⟩ := hvk
          obtain ⟨rfl, _, rfl⟩ := hv0
          have y0 := hck m hmx
          have y1 := hc0 m hme
          have hbw : bk < wr.heap.size := Nat.lt_of_lt_of_le hltk HB.out.size
          have HXM : Hid (x.dig[m]? = some x.dig[m]) := List.getElem?_eq_getElem hmx
          have HEM : Hid (e0.dig[m]? = some e0.dig[m]) := List.getElem?_eq_getElem hme
          generalize x.dig[m] = cx at *
          generalize e0.dig[m] = ce at *
          clear hck hc0 hM0
          by_cases hv : cx = ce
          · subst hv
            have HN := hid (HNX.out hmx (HXM.out.trans HEM.out.symm))
            clear HNX HEND HXM HEM
            go_wp2_with fail
            go_quiet (fail)
            go_wp2_with fail
            exact ⟨⟨k + 1, by go_num, by omega, HN.out, below_drewN HB.out _⟩, by simp [intOf]; omega⟩
          · have hne : ((cx.toNat : Int) == (ce.toNat : Int)) = false := by
              rw [beq_eq_false_iff_ne]
              intro h
              exact hv (UInt8.toNat_inj.1 (by omega))
            have HRES := hid (HEND.out (.inr (by rw [HXM.out, HEM.out]; exact fun h => hv (Option.some.inj h))))
            clear HNX HEND HXM HEM
            go_wp2_with fail
            go_quiet (fail)
            go_wp2_with fail
            go_ret
            exact ⟨by rw [HRES.out]; rfl, below_drewN HB.out _⟩
      · have i2 : ¬ (k : Int) < (l.length : Int) + 1 := by omega
        have HME : Hid (m < e0.dig.length ∧ Alike e0 L (m + 1)) := by
          have h2 := HE0.out
          have hL0 : 0 < L.length := by rw [HL0.out]; omega
          rw [List.getElem?_eq_getElem hL0] at h2
          obtain ⟨hm1, _⟩ := HH.out.1 0 hL0 (by omega)
          rw [Option.some.inj h2] at hm1
          refine ⟨hm1, alike_next HM.out.2.1 hm1 (fun i hi => ?_)⟩
          obtain ⟨hm, hv⟩ := HH.out.1 i hi (by have := HL0.out; omega)
          refine ⟨hm, ?_⟩
          rw [List.getElem?_eq_getElem hm, List.getElem?_eq_getElem hm1] at hv
          exact Option.some.inj hv
        have hme := HME.out.1
        go_wp2_with fail
        exact ⟨⟨m + 1, by go_num, by have := HME.out.1; omega, HME.out.2, HH.out.2⟩, by simp [intOf]; omega⟩
end Go.Proofs.Ytbmohenjphmlgaa

/- A region that draws its order: a load is taken first that one later operation waits for, though another behind that one writes what it reads. -/
namespace Go.Proofs.Ytbmohenjphmlgaa
open Go.RowKit
set_option maxRecDepth 100000

section
variable {P : Program} {ops : Array Oper} {Q : Exit → Act → World → Prop} {md : Region.Mode} {S : World → Prop} {k : Nat}

/-- Whatever order is picked, and S holds behind every operation till number k has come up. -/
def wpAnyL (P : Program) (md : Region.Mode) (ops : Array Oper) (Q : Exit → Act → World → Prop) (S : World → Prop) (k : Nat) : Nat → Array Bool → Act → World → Prop
  | 0, listed, a, w => Region.ready md ops listed = [] ∧ Q .normal a w
  | fuel + 1, listed, a, w =>
    (Region.ready md ops listed = [] → Q .normal a w) ∧
    ∀ i ∈ Region.ready md ops listed, wpOp P ops Q i (fun a' w' => ((listed.setIfInBounds i true).getD k true = false → S w') ∧ wpAnyL P md ops Q S k fuel (listed.setIfInBounds i true) a' w') a w

theorem wpAny_of_L : ∀ (fuel : Nat) (listed : Array Bool) (a : Act) (w : World), wpAnyL P md ops Q S k fuel listed a w → wpAny P md ops Q fuel listed a w
  | 0, _, _, _, h => h
  | fuel + 1, _, _, _, h => ⟨h.1, fun i hi => wpOp_mono (fun a' w' h' => wpAny_of_L fuel _ a' w' h'.2) (h.2 i hi)⟩

theorem listed_on {listed : Array Bool} (i : Nat) (h : listed.getD k true = true) : (listed.setIfInBounds i true).getD k true = true := by
  by_cases hik : i = k
  · subst hik
    rcases Nat.lt_or_ge i listed.size with h' | h'
    · simp [h']
    · simp
  · rw [getD_set_ne true hik]; exact h

/-- Behind number k nothing is asked of S. -/
theorem wpAnyL_free : ∀ (fuel : Nat) (listed : Array Bool) (a : Act) (w : World), listed.getD k true = true → wpAny P md ops Q fuel listed a w → wpAnyL P md ops Q S k fuel listed a w
  | 0, _, _, _, _, h => h
  | fuel + 1, listed, _, _, hl, h => ⟨h.1, fun i hi => wpOp_mono (fun a' w' h' => ⟨fun hf => (by rw [listed_on i hl] at hf; cases hf), wpAnyL_free fuel _ a' w' (listed_on i hl) h'⟩) (h.2 i hi)⟩

theorem wpAnyL_first {i : Nat} {oi ok : Oper} {v : Value} (hi : ops[i]? = some oi) (hk : ops[k]? = some ok) (hki : k ≠ i) (hwait : ∃ e ∈ ok.after, Region.binds md e = true ∧ e.on = i)
    (hsel : ∀ (j : Nat) (o : Oper) cs b, ops[j]? = some o → o.op ≠ .select cs b) (hQ : ∀ c a w, Q (.panic c) (a.put oi.dst v) w → Q (.panic c) a w) :
    ∀ (fuel : Nat) (listed : Array Bool) (a : Act) (w : World),
      (∀ j oj, ops[j]? = some oj → j ≠ i → listed.getD j true = false → (∀ e ∈ oj.after, Region.binds md e = true → e.on ≠ i) → oi.apart ops oj = true) →
      i ∈ Region.ready md ops listed → listed.getD k true = false → YieldsIf P ops S oi v a → S w →
      wpAnyL P md ops Q S k fuel (listed.setIfInBounds i true) (a.put oi.dst v) w → wpAnyL P md ops Q S k (fuel + 1) listed a w := by
  intro fuel
  induction fuel with
  | zero =>
    intro listed a w _ hr _ hy hS H
    refine ⟨fun h => (by rw [h] at hr; cases hr), fun j hj => ?_⟩
    by_cases hji : j = i
    · subst hji; exact hy.wpOp hi hS ⟨fun _ => hS, H⟩
    · have := ready_mono hj hji
      rw [H.1] at this
      cases this
  | succ fuel ih =>
    intro listed a w hfree hr hlk hy hS H
    refine ⟨fun h => (by rw [h] at hr; cases hr), fun j hj => ?_⟩
    by_cases hji : j = i
    · subst hji; exact hy.wpOp hi hS ⟨fun _ => hS, H⟩
    · have h1 := H.2 j (ready_mono hj hji)
      obtain ⟨hjun, oj, hoj, hall⟩ := mem_ready.1 hj
      have h0 := (mem_ready.1 hr).1
      have hnot : ∀ e ∈ oj.after, Region.binds md e = true → e.on ≠ i := fun e he hb heq => by
        have h2 := hall e he hb
        rw [heq] at h2
        rcases Nat.lt_or_ge i listed.size with h' | h'
        · simp [h'] at h0 h2; rw [h0] at h2; cases h2
        · simp [Array.getElem?_eq_none h'] at h2
      have hjk : j ≠ k := by
        intro e
        subst e
        rw [hk] at hoj
        cases hoj
        obtain ⟨e, he, hb, hon⟩ := hwait
        exact hnot e he hb hon
      have hlk' : (listed.setIfInBounds j true).getD k true = false := by rw [getD_set_ne true hjk]; exact hlk
      have h2 := wpOp_putIf hoj (hfree j oj hoj hji hjun hnot) (fun cs b => hsel i oi cs b hi) (fun cs b => hsel j oj cs b hoj) hQ hy h1
      have hfree' : ∀ k ok, ops[k]? = some ok → k ≠ i → (listed.setIfInBounds j true).getD k true = false →
          (∀ e ∈ ok.after, Region.binds md e = true → e.on ≠ i) → oi.apart ops ok = true := fun k ok hk hki hun hno => by
        refine hfree k ok hk hki ?_ hno
        by_cases hjk : j = k
        · subst hjk; exact hjun
        · rw [getD_set_ne true hjk] at hun; exact hun
      refine wpOp_mono (fun a' w' h3 => ?_) h2
      have hS' : S w' := h3.2.1 (by rw [Array.setIfInBounds_comm _ _ (Ne.symm hji), getD_set_ne true (Ne.symm hki)]; exact hlk')
      refine ⟨fun _ => hS', ih (listed.setIfInBounds j true) a' w' hfree' (ready_mono hr (Ne.symm hji)) hlk' h3.1 hS' ?_⟩
      rw [Array.setIfInBounds_comm _ _ hji]
      exact h3.2.2

/-- Number k waits for number i. -/
def waitsFor (md : Region.Mode) (ops : Array Oper) (k i : Nat) : Bool := k != i && ((ops[k]?).map (fun o => o.after.any (fun e => Region.binds md e && e.on == i))).getD false

theorem wpAnyL_take {i : Nat} {oi : Oper} {v : Value} {fuel : Nat} {listed : Array Bool} {a : Act} {w : World} (hi : ops[i]? = some oi)
    (hs : Region.noSelect ops = true) (hf : Region.free md ops listed i = true) (hr : (Region.ready md ops listed).contains i = true) (hw : waitsFor md ops k i = true) (hlk : listed.getD k true = false)
    (hQ : ∀ c a w, Q (.panic c) (a.put oi.dst v) w → Q (.panic c) a w) (hS : S w) (hy : YieldsIf P ops S oi v a)
    (h : wpAnyL P md ops Q S k fuel (listed.setIfInBounds i true) (a.put oi.dst v) w) : wpAnyL P md ops Q S k (fuel + 1) listed a w := by
  unfold waitsFor at hw
  simp only [Bool.and_eq_true, bne_iff_ne, ne_eq] at hw
  cases hk : ops[k]? with
  | none => rw [hk] at hw; simp at hw
  | some ok =>
    rw [hk] at hw
    simp only [Option.map_some, Option.getD_some] at hw
    obtain ⟨e, he, hb⟩ := Array.any_eq_true'.1 hw.2
    simp only [Bool.and_eq_true, beq_iff_eq] at hb
    exact wpAnyL_first hi hk hw.1 ⟨e, he, hb⟩ (Region.noSelect_spec hs) hQ fuel listed a w (Region.free_spec hi hf) (by simpa using hr) hlk hy hS h

/-- Each of the operations 'rs' comes up next. -/
def AllReadyL (P : Program) (md : Region.Mode) (ops : Array Oper) (Q : Exit → Act → World → Prop) (S : World → Prop) (k fuel : Nat) (listed : Array Bool) (a : Act) (w : World) (rs : List Nat) : Prop :=
  ∀ i ∈ rs, wpOp P ops Q i (fun a' w' => ((listed.setIfInBounds i true).getD k true = false → S w') ∧ wpAnyL P md ops Q S k fuel (listed.setIfInBounds i true) a' w') a w

theorem AllReadyL.nil {fuel : Nat} {listed : Array Bool} {a : Act} {w : World} : AllReadyL P md ops Q S k fuel listed a w [] := fun _ h => by cases h

theorem AllReadyL.cons {fuel : Nat} {listed : Array Bool} {a : Act} {w : World} {i : Nat} {o : Oper} {rs : List Nat} (ho : ops[i]? = some o)
    (h : ∀ K' : Act → World → Prop, Shut (∀ a w, S w → wpAnyL P md ops Q S k fuel (listed.setIfInBounds i true) a w → K' a w) → if Region.wanted o (yielded ops a.tmps) = true then Oper.wp P o a w K' Q else K' (a.put o.dst undef) w)
    (hs : AllReadyL P md ops Q S k fuel listed a w rs) : AllReadyL P md ops Q S k fuel listed a w (i :: rs) := fun j hj => by
  rcases List.mem_cons.1 hj with rfl | hj
  · exact wpOp_step ho (fun K' hK => h K' (fun a w hS hW => hK a w ⟨fun _ => hS, hW⟩))
  · exact hs j hj

/-- Number k itself. -/
theorem AllReadyL.last {fuel : Nat} {listed : Array Bool} {a : Act} {w : World} {o : Oper} (ho : ops[k]? = some o)
    (h : ∀ K' : Act → World → Prop, Shut (∀ a w, wpAny P md ops Q fuel (listed.setIfInBounds k true) a w → K' a w) → if Region.wanted o (yielded ops a.tmps) = true then Oper.wp P o a w K' Q else K' (a.put o.dst undef) w) :
    AllReadyL P md ops Q S k fuel listed a w [k] := fun j hj => by
  rcases List.mem_cons.1 hj with rfl | hj
  · have hon : (listed.setIfInBounds j true).getD j true = true := by
      rcases Nat.lt_or_ge j listed.size with h' | h'
      · simp [h']
      · simp
    exact wpOp_step ho (fun K' hK => h K' (fun a w hW => hK a w ⟨fun hf => (by rw [hon] at hf; cases hf), wpAnyL_free _ _ _ _ hon hW⟩))
  · cases hj

theorem wpAnyL_ready {rs : List Nat} {fuel : Nat} {listed : Array Bool} {a : Act} {w : World} (hr : Region.ready md ops listed = rs) (hne : rs ≠ [])
    (h : AllReadyL P md ops Q S k fuel listed a w rs) : wpAnyL P md ops Q S k (fuel + 1) listed a w := ⟨fun h0 => absurd (hr ▸ h0) hne, hr ▸ h⟩

theorem wp_region_L {id : Nat} {a : Act} {w : World} (S : World → Prop) (k : Nat) (hm : P.follows .mixedOrders = true)
    (h : wpAnyL P .any ops Q S k ops.size (Array.replicate ops.size false) a w.drew) : (Code.region id ops true).wp P Q a w := wp_region_any hm (wpAny_of_L _ _ _ _ h)
end
end Go.Proofs.Ytbmohenjphmlgaa

/- The walk of node (of the document's own answer), where it is empty or a leaf. -/
namespace Go.Proofs.Ytbmohenjphmlgaa
open Go.RowKit
set_option maxRecDepth 100000

theorem bytesItemR_any (s : ByteArray) (w : World) : Calls Try.prog 75 #[.string s] w fun e w' => e = .returned (.agg #[.bool false, .string s, .slice none 0 0]) ∧ Below w.heap.size w w' := by
  go_enter Try.func75, Try.ntmps75
  go_wp2_with fail
  exact bodyPost_ret (v := .agg #[.bool false, .string s, .slice none 0 0]) (by simp [results, Try.results75, go_sem]) rfl ⟨rfl, (Below.refl _ _).alloc (Nat.le_refl _) _⟩

/-- What node tells. -/
def NodePost (n : Nat) (t : Itm) (w : World) (e : Ending) (w' : World) : Prop := ∃ v, e = .returned v ∧ Ow w' n w.heap.size w'.heap.size v t ∧ Below w.heap.size w w'

theorem cells_six (w : World) (a b c d e f : Value) (E : TypeId) : ∀ j u, [a, b, c, d, e, f][j]? = some u → (w.alloc (.cells #[a, b, c, d, e, f] E)).cell? ((⟨w.heap.size, 0, none⟩ : Addr).add j) = some u := by
  intro j u hu
  have hh : (w.alloc (.cells #[a, b, c, d, e, f] E)).heap[w.heap.size]? = some (.cells #[a, b, c, d, e, f] E (0, 0)) := heap_alloc_new w _
  have hadd : (⟨w.heap.size, 0, none⟩ : Addr).add j = ⟨w.heap.size, j, none⟩ := by unfold Addr.add; split <;> simp_all
  rw [hadd, cell_of_row _ _ j _ _ _ hh]
  simpa using hu

/-- Two items that were just laid become a list: at a step of a region that draws. -/
theorem step_two_items {ops : Array Oper} {o : Oper} {act : Act} {K : Act → World → Prop} {Q' : Exit → Act → World → Prop} {E : Prop} (hgd : o.guard = none) (s x : Operand)
    (hop : o.op = .call { callee := .builtin .append, args := #[s, x], argTypes := #[22, 22] }) {wr : World} {n base lo1 hi1 lo2 hi2 : Nat} (a0 a1 a2 b0 b1 b2 : Value) (t1 t2 : Itm) (L : Nat) (hL : wr.heap.size = L)
    (hs : act.eval s = .slice none 0 0) (hx : act.eval x = .slice (some ⟨L, 0, none⟩) 2 2) (h1 : Ow wr n lo1 hi1 (.agg #[a0, a1, a2]) t1) (h2 : Ow wr n lo2 hi2 (.agg #[b0, b1, b2]) t2)
    (q1 : base ≤ lo1) (q2 : lo1 ≤ hi1) (q3 : hi1 ≤ lo2) (q4 : lo2 ≤ hi2) (q5 : hi2 ≤ wr.heap.size) (hone : ∀ u ∈ [a0, a1, a2, b0, b1, b2], u.oneCell' = true)
    (h : ∀ a' c' w', OwL w' n base w'.heap.size (.slice a' 2 c') [t1, t2] → Below wr.heap.size wr w' → K (act.put o.dst (.slice a' 2 c')) w') : if Region.wanted o (yielded ops act.tmps) = true then Oper.wp Try.prog o act (wr.alloc (.cells #[a0, a1, a2, b0, b1, b2] 24)) K Q' else E := by
  subst hL
  have hw : Region.wanted o (yielded ops act.tmps) = true := by simp [Region.wanted, hgd]
  rw [if_pos hw]
  obtain ⟨i0, hi, hz0, hz1, hz2⟩ := info_parts infoItem
  have hb2 : Below wr.heap.size wr (wr.alloc (.cells #[a0, a1, a2, b0, b1, b2] 24)) := (Below.refl _ _).alloc (Nat.le_refl _) _
  have hBw : base ≤ (wr.alloc (.cells #[a0, a1, a2, b0, b1, b2] 24)).heap.size := by have := hb2.size; omega
  obtain ⟨v', w', hr, ho, hg, hn⟩ := run_append_mine (P := Try.prog) _ base 22 o.type 24 i0 _ 3 48 Try.underlying22 hi hz0 hz1 hz2 rfl (by decide) (.slice none 0 0) 0 [] (World.ownsRow_nil _ _ _ _) ⟨wr.heap.size, 0, none⟩ 2 2 [a0, a1, a2, b0, b1, b2] rfl (cells_six _ _ _ _ _ _ _ _) hone (by unfold maxLen; omega) (by omega) hBw
  have hbl : Below wr.heap.size wr w' := hb2.grown hg (by rw [alloc_size]; omega) (fun g hgg => by cases hgg)
  obtain ⟨g, c', hv, hgs⟩ : ∃ g c', v' = .slice (some ⟨g, 0, none⟩) 2 c' ∧ wr.heap.size ≤ g := by
    rcases ho.2 with ⟨_, h0⟩ | ⟨g, c', cur, hv, _⟩
    · omega
    · refine ⟨g, c', hv, ?_⟩
      rcases hn with e | ⟨g', e, hle⟩
      · rw [hv] at e; cases e
      · rw [hv] at e
        simp only [Value.ownBlock, Option.some.injEq] at e
        rw [alloc_size] at hle
        omega
  subst hv
  unfold Oper.wp execOp
  simp only [hop, resolve, invoke, builtin, Sem.run_bind, Sem.run_pure, Result.andThen_ok, List.map_toArray, List.map_cons, List.map_nil, hs, hx, hr]
  refine h _ _ w' ⟨[a0, a1, a2, b0, b1, b2], ho, ?_, fun i => if i = 0 then lo1 else lo2, fun i => if i = 0 then hi1 else hi2, ?_, ?_⟩ hbl
  · intro g' hg'
    exact (World.ownsRow.lt ho g' hg').2
  · intro i hi'
    have hi2' : i = 0 ∨ i = 1 := by simp at hi'; omega
    have hsz := hbl.size
    rcases hi2' with rfl | rfl
    · refine ⟨q1, by simp; omega, fun g' hg' => ?_, ?_⟩
      · simp only [Value.ownBlock, Option.some.injEq] at hg'
        simp
        omega
      · exact own_frame _ _ _ _ _ (fun k _ hk => hbl.block k (by simp at hk; omega)) h1
    · refine ⟨by simp; omega, by simp; omega, fun g' hg' => ?_, ?_⟩
      · simp only [Value.ownBlock, Option.some.injEq] at hg'
        simp
        omega
      · exact own_frame _ _ _ _ _ (fun k _ hk => hbl.block k (by simp at hk; omega)) h2
  · intro i j hij hj
    have : i = 0 ∧ j = 1 := by simp at hj; omega
    obtain ⟨rfl, rfl⟩ := this
    simp
    omega

set_option maxHeartbeats 1600000 in
theorem nodeR_empty (a : Option Addr) (cap n : Nat) (w : World) : Calls Try.prog 55 #[.slice a 0 cap] w (NodePost (n + 1) (Tr.itB []) w) := by
  have HB := hid (fun s w => bytesItemR_any s w)
  go_enter Try.func55, Try.ntmps55
  go_wp2_with fail
  refine (HB.out _ _).mono ?_
  rintro e w1 ⟨rfl, b1⟩
  have hb0 := old_block b1
  have q0 := cell_of_row _ _ 0 _ _ _ hb0
  have q1 := cell_of_row _ _ 1 _ _ _ hb0
  have q2 := cell_of_row _ _ 2 _ _ _ hb0
  have f0 := frozen_of_row _ _ 0 _ _ hb0
  have f1 := frozen_of_row _ _ 1 _ _ hb0
  have f2 := frozen_of_row _ _ 2 _ _ hb0
  have HB1 := hid (box_below b1 (.bool false) (.string ⟨#[]⟩) (.slice none 0 0))
  go_wp2_with fail
  obtain ⟨z0, z1, z2⟩ := set3 hb0 (.bool false) (.string ⟨#[]⟩) (.slice none 0 0)
  exact bodyPost_ret (v := .agg #[.bool false, .string ⟨#[]⟩, .slice none 0 0]) (by simp [results, Try.results55, go_sem, z0, z1, z2]) rfl ⟨_, rfl, ow_bytes _ _ _ _ _ _ rfl, HB1.out⟩
end Go.Proofs.Ytbmohenjphmlgaa

/- The walk of sharedStart (of the program). -/
namespace Go.Proofs.Ytbmohenjphmlgaa
open Go.RowKit
set_option maxRecDepth 100000

def toEnt (p : ByteArray × ByteArray) : Tr.Ent := ⟨p.1.data.toList, p.2.data.toList⟩
def ents (l : List (ByteArray × ByteArray)) : List Tr.Ent := l.map toEnt

theorem behindB_ents (p : ByteArray) (l : List (ByteArray × ByteArray)) : ents (behindB p l) = Tr.behind p.data.toList (ents l) := by
  unfold ents behindB Tr.behind
  induction l with
  | nil => rfl
  | cons x l ih =>
    rw [List.filterMap_cons, List.map_cons, List.filterMap_cons]
    by_cases hp : pre p x.1
    · rw [if_pos hp]
      have hp' : p.data.toList.isPrefixOf (toEnt x).dig = true := hp
      rw [if_pos hp', List.map_cons, ih]
      congr 1
      unfold toEnt
      rw [cutP_list hp, ba_len]
    · rw [if_neg hp]
      have hp' : ¬ p.data.toList.isPrefixOf (toEnt x).dig = true := hp
      rw [if_neg hp']
      exact ih

theorem shrink_end {t d t0 : List UInt8} (h1 : t <+: t0) (h2 : Tr.lcp t0 d <+: t) (h3 : t <+: d) : t = Tr.lcp t0 d :=
  List.IsPrefix.eq_of_length_le (Tr.lcp_most _ _ _ h1 h3) h2.length_le

theorem shrink_step {t d t0 : List UInt8} (h1 : t <+: t0) (h2 : Tr.lcp t0 d <+: t) (h3 : ¬ t <+: d) : 0 < t.length ∧ t.take (t.length - 1) <+: t0 ∧ Tr.lcp t0 d <+: t.take (t.length - 1) := by
  have hne : Tr.lcp t0 d ≠ t := fun h => h3 (h ▸ Tr.lcp_right _ _)
  have hlt : (Tr.lcp t0 d).length < t.length := by
    rcases Nat.lt_or_ge (Tr.lcp t0 d).length t.length with h | h
    · exact h
    · exact absurd (List.IsPrefix.eq_of_length_le h2 h) hne
  refine ⟨by omega, (List.take_prefix _ _).trans h1, ?_⟩
  rw [List.prefix_take_iff]
  exact ⟨h2, by omega⟩

theorem take_ents (l : List (ByteArray × ByteArray)) (k : Nat) (h : k < l.length) (s : List UInt8) : Tr.sharedFrom s (ents (l.take (k + 1))) = Tr.lcp (Tr.sharedFrom s (ents (l.take k))) l[k].1.data.toList := by
  unfold ents Tr.sharedFrom
  rw [List.take_succ_eq_append_getElem h, List.map_append, List.foldl_append]
  rfl

set_option maxHeartbeats 1600000 in
theorem sharedStart_any (a : Option Addr) (cap : Nat) (l : List (ByteArray × ByteArray)) (w : World) (hr : PRd w.heap.size w a l) (hl : l.length ≤ 1000000) (h0 : 0 < l.length) (hz : ∀ x ∈ l, x.1.size ≤ 1000000) : Calls Try.prog 97 #[.slice a l.length cap] w fun e w' => ∃ t : ByteArray, e = .returned (.string t) ∧ t.data.toList = Tr.shared (ents l) ∧ Below w.heap.size w w' := by
  have HR := hid hr
  have HC := hid (fun s p w => hasPrefix_any s p w)
  obtain ⟨b0, off0, rfl, hb0, c0, c1⟩ := hr 0 h0
  rw [Nat.zero_mul, Nat.add_zero] at c0
  have HS : Hid (Tr.shared (ents l) = Tr.sharedFrom l[0].1.data.toList (ents l)) := by
    cases l with
    | nil => simp at h0
    | cons x l => rfl
  have HZ := hid hz
  clear hr c1 hz
  have hint : (0 : Int) < (l.length : Int) := by omega
  go_enter Try.func97, Try.ntmps97
  go_wp2_with fail
  go_loopw [3, 12] (fun v i wr => ∃ (k : Nat) (t : ByteArray), v = .string t ∧ i = .int .i64 k ∧ k ≤ l.length ∧ Hid (t.data.toList = Tr.sharedFrom l[0].1.data.toList (ents (l.take k)) ∧ t.size ≤ 1000000 ∧ Below w.heap.size w wr)) (fun _ i _ => l.length - (intOf i).toNat)
  case atStart => exact ⟨0, l[0].1, rfl, rfl, Nat.zero_le _, rfl, HZ.out _ (List.getElem_mem h0), Below.refl _ _⟩
  case round =>
    obtain ⟨k, t0, rfl, rfl, hk, HH⟩ := hrel
    by_cases hlt : k < l.length
    · obtain ⟨b, off, hbo, hb, e0, e1⟩ := HR.out k hlt
      simp only [Option.some.injEq, Addr.mk.injEq, and_true] at hbo
      obtain ⟨rfl, rfl⟩ := hbo
      have f0 := (HH.out.2.2.cell (p := ⟨b0, off0 + k * 2, none⟩) hb).trans e0
      have f1 := (HH.out.2.2.cell (p := ⟨b0, off0 + k * 2 + 1, none⟩) hb).trans e1
      have i1 : (0 : Int) ≤ (k : Int) := by omega
      have i2 : (k : Int) < (l.length : Int) := by omega
      have HT := hid (take_ents l k hlt l[0].1.data.toList)
      clear e0 e1 c0
      go_wp2_with fail
      go_loopw [3] (fun v wx => ∃ t : ByteArray, v = .string t ∧ t.size ≤ 1000000 ∧ Hid (t.data.toList <+: t0.data.toList ∧ Tr.lcp t0.data.toList l[k].1.data.toList <+: t.data.toList) ∧ wx = wr.alloc (.cells #[.string l[k].1, .string l[k].2] 133)) (fun v _ => strLen v)
      case atStart => exact ⟨t0, rfl, HH.out.2.1, ⟨List.prefix_refl _, Tr.lcp_left _ _⟩, rfl⟩
      case round =>
        obtain ⟨t, rfl, hts, HP, rfl⟩ := hrel
        go_wp2_with fail
        refine (HC.out _ _ _).mono ?_
        rintro e w1 ⟨rfl, rfl⟩
        cases hp : pre t l[k].1 with
        | true =>
          have HE : Hid (t.data.toList = Tr.lcp t0.data.toList l[k].1.data.toList) := shrink_end HP.out.1 HP.out.2 (by unfold pre at hp; exact List.isPrefixOf_iff_prefix.1 hp)
          clear hp
          go_wp2_with fail
          exact ⟨⟨k + 1, t, rfl, by go_num, by omega, by rw [HT.out, ← HH.out.1]; exact HE.out, hts, HH.out.2.2.alloc HH.out.2.2.size _⟩, by simp [intOf]; omega⟩
        | false =>
          have HE := hid (shrink_step HP.out.1 HP.out.2 (by unfold pre at hp; rw [← List.isPrefixOf_iff_prefix, hp]; decide))
          have hpos : 0 < t.size := by have := HE.out.1; rwa [ba_len] at this
          have j1 : (0 : Int) ≤ (t.size : Int) - 1 := by omega
          have j2 : (t.size : Int) - 1 ≤ (t.size : Int) := by omega
          clear hp
          go_wp2_with fail
          refine ⟨⟨_, rfl, ?_, ?_, trivial⟩, ?_⟩
          · rw [ByteArray.size_extract]; omega
          · rw [Hid, Lib.extract_data, List.drop_zero, Nat.sub_zero]
            have := HE.out.2
            rw [ba_len] at this
            exact this
          · show (t.extract 0 (t.size - 1)).size < t.size
            rw [ByteArray.size_extract]; omega
    · have i2 : ¬ (k : Int) < (l.length : Int) := by omega
      have HK : Hid (Tr.sharedFrom l[0].1.data.toList (ents (l.take k)) = Tr.sharedFrom l[0].1.data.toList (ents l)) := by rw [Hid, List.take_of_length_le (by omega)]
      go_wp2_with fail
      go_ret
      exact ⟨t0, rfl, by rw [HH.out.1, HK.out, HS.out], HH.out.2.2⟩
end Go.Proofs.Ytbmohenjphmlgaa

/- What all nodes have in common (of the program): Kind, Item, Bytes, Sum; bytesItem, listItem. -/
namespace Go.Proofs.Ytbmohenjphmlgaa
open Go.RowKit
set_option maxRecDepth 100000

set_option maxHeartbeats 1600000 in
theorem bytesItem_any (s : ByteArray) (w : World) : Calls Try.prog 112 #[.string s] w fun e w' => e = .returned (.agg #[.bool false, .string s, .slice none 0 0]) ∧ Below w.heap.size w w' := by
  go_enter Try.func112, Try.ntmps112
  go_wp2_with fail
  exact bodyPost_ret (v := .agg #[.bool false, .string s, .slice none 0 0]) (by simp [results, Try.results112, go_sem]) rfl ⟨rfl, (Below.refl _ _).alloc (Nat.le_refl _) _⟩

set_option maxHeartbeats 1600000 in
theorem listItem_any (a : Option Addr) (n cap : Nat) (w : World) : Calls Try.prog 113 #[.slice a n cap] w fun e w' => e = .returned (.agg #[.bool true, .string ⟨#[]⟩, .slice a n cap]) ∧ Below w.heap.size w w' := by
  go_enter Try.func113, Try.ntmps113
  go_wp2_with fail
  exact bodyPost_ret (v := .agg #[.bool true, .string ⟨#[]⟩, .slice a n cap]) (by simp [results, Try.results113, go_sem]) rfl ⟨rfl, (Below.refl _ _).alloc (Nat.le_refl _) _⟩

set_option maxHeartbeats 1600000 in
theorem commonItem_any (k : Int) (a : Option Addr) (n cap : Nat) (l : Bool) (s : ByteArray) (w : World) : Calls Try.prog 158 #[.agg #[.int .i64 k, .bool l, .string s, .slice a n cap]] w fun e w' => e = .returned (.agg #[.bool l, .string s, .slice a n cap]) ∧ Below w.heap.size w w' := by
  go_enter Try.func158, Try.ntmps158
  go_wp2_with fail
  exact bodyPost_ret (v := .agg #[.bool l, .string s, .slice a n cap]) (by simp [results, Try.results158, go_sem]) rfl ⟨rfl, ((Below.refl _ _).alloc (Nat.le_refl _) _).alloc (by simp) _⟩

set_option maxHeartbeats 1600000 in
theorem commonKind_any (k : Int) (a : Option Addr) (n cap : Nat) (l : Bool) (s : ByteArray) (w : World) : Calls Try.prog 159 #[.agg #[.int .i64 k, .bool l, .string s, .slice a n cap]] w fun e w' => e = .returned (.int .i64 k) ∧ Below w.heap.size w w' := by
  go_enter Try.func159, Try.ntmps159
  go_wp2_with fail
  go_ret
  exact ⟨rfl, (Below.refl _ _).alloc (Nat.le_refl _) _⟩

/-- An item that can be written: of a node. -/
structure Small (t : Itm) : Prop where
  pure : Itm.pure t = true
  deep : Itm.deep t ≤ 8
  len : (Itm.enc t).length ≤ 1000

theorem node_small (f : Nat) (l : List Tr.Ent) (hf : f ≤ 100) (h : Tr.Fits f l) : Small (Tr.node f l) := ⟨Tr.node_pure f l, Tr.node_deep f l, Nat.le_trans (Tr.node_len f l hf h) (by decide)⟩

theorem Small.cnt {t : Itm} (h : Small t) : Itm.cnt t ≤ 1000000000 := Nat.le_trans (Itm.cnt_le_enc t h.pure) (Nat.le_trans h.len (by decide))

set_option maxHeartbeats 1600000 in
theorem commonBytes_any (k : Int) (a : Option Addr) (n cap : Nat) (l : Bool) (s : ByteArray) (m : Nat) (t : Itm) (w : World) (hs : Small t) (hr : Rep w.heap.size w (m + 1) (.agg #[.bool l, .string s, .slice a n cap]) t) : Calls Try.prog 129 #[.agg #[.int .i64 k, .bool l, .string s, .slice a n cap]] w fun e w' => e = .returned (.string ⟨(Itm.enc t).toArray⟩) ∧ Below w.heap.size w w' := by
  have HE := hid (fun w h => itemsEncode_any m t w (.agg #[.bool l, .string s, .slice a n cap]) hs.cnt h)
  have HA := hid (Itm.encA_ok hs.pure ⟨hs.deep, hs.len⟩)
  have HR := hid hr
  clear hr
  go_enter Try.func129, Try.ntmps129
  go_wp2_with fail
  refine (HE.out _ (rep_later ((Below.refl _ _).alloc (Nat.le_refl _) _) HR.out)).mono ?_
  rintro e w1 ⟨rfl, b1⟩
  rw [HA.out]
  go_wp2_with fail
  go_ret
  exact ⟨rfl, ((Below.refl _ _).alloc (Nat.le_refl _) _).trans (b1.mono (by simp))⟩

set_option maxHeartbeats 1600000 in
theorem commonSum_any (k : Int) (a : Option Addr) (n cap : Nat) (l : Bool) (s : ByteArray) (m : Nat) (t : Itm) (w : World) (hs : Small t) (hr : Rep w.heap.size w (m + 1) (.agg #[.bool l, .string s, .slice a n cap]) t) : Calls Try.prog 116 #[.agg #[.int .i64 k, .bool l, .string s, .slice a n cap]] w fun e w' => e = .returned (.string ⟨(Tr.sum (Itm.enc t)).toArray⟩) ∧ Below w.heap.size w w' := by
  have HE := hid (fun w h => commonBytes_any k a n cap l s m t w hs h)
  have HS : Hid (∀ w, Calls Try.prog 128 #[.string ⟨(Itm.enc t).toArray⟩] w fun e w' => e = .returned (.string ⟨(Tr.sum (Itm.enc t)).toArray⟩) ∧ Below w.heap.size w w') := by
    intro w
    have := sumOf_any ⟨(Itm.enc t).toArray⟩ w (by rw [← ba_len]; have := hs.len; simp; omega)
    simpa using this
  have HR := hid hr
  clear hr
  go_enter Try.func116, Try.ntmps116
  go_wp2_with fail
  refine (HE.out _ (rep_later ((Below.refl _ _).alloc (Nat.le_refl _) _) HR.out)).mono ?_
  rintro e w1 ⟨rfl, b1⟩
  go_wp2_with fail
  refine (HS.out _).mono ?_
  rintro e w2 ⟨rfl, b2⟩
  go_wp2_with fail
  go_ret
  exact ⟨rfl, (((Below.refl _ _).alloc (Nat.le_refl _) _).trans (b1.mono (by simp))).trans (b2.mono (by have := b1.size; simp at this; omega))⟩
end Go.Proofs.Ytbmohenjphmlgaa
