/- An item that is read as data can be read by the walks; it is no greater than ten times its bulk. -/
import Derived.Test.YtplfjengfhijhaaRows
import Derived.Test.YtplfjengfhijhaaEncodesWalk
import Derived.ProofKit
import Derived.OpenShut
import Derived.ShutString
import Derived.ChangeOld
import Derived.JoinedCond
import Derived.Lib.SmallJoins
namespace Go.Proofs.Ytplfjengfhijhaa
open Go.RowKit
open Go.ChangeShapes Go.WideShapes Go.ChangeAt Go.Joins

theorem cellsItem : Try.prog.cellsOf 24 = 3 := by kernel_rfl
theorem cellsItems : Try.prog.cellsOf 22 = 1 := by kernel_rfl
theorem cellsStr : Try.prog.cellsOf 9 = 1 := by kernel_rfl
theorem cellsBool : Try.prog.cellsOf 4 = 1 := by kernel_rfl

theorem spot_none {W : World} {a : Addr} {c : Value} (h : W.cell? a = some c) : a.spot = none := by
  unfold World.cell? at h
  cases hs : a.spot with
  | none => rfl
  | some n =>
    rw [hs] at h
    split at h <;> simp at h

theorem add_none (b off k : Nat) : (⟨b, off, none⟩ : Addr).add k = ⟨b, off + k, none⟩ := by unfold Addr.add; split <;> simp_all

theorem choose_list {p : Nat → Itm → Prop} : ∀ n : Nat, (∀ i, i < n → ∃ t, p i t) → ∃ l : List Itm, l.length = n ∧ ∀ i (h : i < l.length), p i l[i] := by
  intro n
  induction n with
  | zero => intro _; exact ⟨[], rfl, fun i h => by simp at h⟩
  | succ n ih =>
    intro h
    obtain ⟨l, hl, hp⟩ := ih (fun i hi => h i (by omega))
    obtain ⟨t, ht⟩ := h n (by omega)
    refine ⟨l ++ [t], by simp [hl], fun i hi => ?_⟩
    by_cases he : i < l.length
    · rw [List.getElem_append_left he]; exact hp i he
    · have he2 : i = n := by simp at hi; omega
      subst he2
      rw [List.getElem_append_right (by omega)]
      simpa [hl] using ht

theorem sum_wt {Hd : Type} : ∀ (l : List Itm) (ds : List (DataW Hd)), l.length = ds.length → (∀ i (h : i < l.length) (h2 : i < ds.length), Itm.wt l[i] ≤ 10 * Rows.uptoBulk ds[i]) → (l.map Itm.wt).sum ≤ 10 * Rows.uptoBulkAll ds := by
  intro l
  induction l with
  | nil => intro ds _ _; simp
  | cons x l ih =>
    intro ds hl hw
    cases ds with
    | nil => simp at hl
    | cons d ds =>
      have h0 := hw 0 (by simp) (by simp)
      have h1 := ih ds (by simpa using hl) (fun i h h2 => by have := hw (i + 1) (by simp; omega) (by simp; omega); simpa using this)
      simp only [List.map_cons, List.sum_cons, Rows.uptoBulkAll]
      simp only [List.getElem_cons_zero] at h0
      omega

theorem rep_of_trod {Hd : Type} (enc : TypeId × Value → Hd) (W : World) : ∀ (fuel : Nat) (cs : List Value) (x : DataW Hd × List MemPlace), DataW.trod enc Try.prog W 0 (fun _ => true) true fuel 24 cs = some x →
    ∃ c0 c1 c2 t, cs = [c0, c1, c2] ∧ Rep W.heap.size W fuel (.agg #[c0, c1, c2]) t ∧ Itm.wt t ≤ 10 * Rows.uptoBulk x.1 := by
  intro fuel
  induction fuel using Nat.strongRecOn with
  | _ fuel ih =>
    intro cs x h
    obtain ⟨xs, n, rfl, rfl, hl, hlen, hf⟩ := DataW.trod_struct Try.underlying24 h
    rw [cellsItem] at hl
    match cs, hl, xs, hlen with
    | [c0, c1, c2], _, [y0, y1, y2], _ =>
      have h0 := hf 0 _ rfl
      have h1 := hf 1 _ rfl
      have h2 := hf 2 _ rfl
      simp [cellsBool] at h0
      simp [cellsStr] at h1
      simp [cellsItems] at h2
      obtain ⟨lb, e0, rfl⟩ := DataW.trod_bool Try.underlying4 h0
      obtain ⟨s, e1, rfl, hs⟩ := DataW.trod_string Try.underlying9 h1
      simp at e0 e1
      subst e0 e1
      rcases DataW.trod_slice Try.underlying22 h2 with ⟨e2, rfl⟩ | ⟨a, len, cap, elems, rest, m, rfl, e2, rfl, _, hlc, hcm, hel, hat, _, _⟩
      · simp at e2
        subst e2
        refine ⟨_, _, _, ⟨lb, s.data.toList, []⟩, rfl, ⟨none, 0, by simp, Nat.zero_le _, fun i hi => by simp at hi⟩, ?_⟩
        rw [Itm.wt_eq]
        simp [Rows.uptoBulk, Rows.uptoBulkAll]
        omega
      · simp at e2
        subst e2
        have hex : ∀ i, i < len → ∃ t, (∃ b off c0 c1 c2, some a = some ⟨b, off, none⟩ ∧ b < W.heap.size ∧ W.cell? ⟨b, off + i * 3, none⟩ = some c0 ∧ W.cell? ⟨b, off + i * 3 + 1, none⟩ = some c1 ∧ W.cell? ⟨b, off + i * 3 + 2, none⟩ = some c2 ∧ Rep W.heap.size W m (.agg #[c0, c1, c2]) t) ∧ ∀ d, (elems.map (·.1))[i]? = some d → Itm.wt t ≤ 10 * Rows.uptoBulk d := by
          have h0sp : 0 < len → a.spot = none := by
            intro hpos
            have hq := hat 0 hpos
            rw [List.getElem?_eq_getElem (by omega)] at hq
            rw [cellsItem] at hq
            obtain ⟨cs0, hc0, _⟩ := Option.bind_eq_some_iff.1 hq
            obtain ⟨_, hl0, hc⟩ := World.cells?_some hc0
            have := hc 0 (by omega)
            rw [List.getElem?_eq_getElem (by omega)] at this
            have hadd : (a.add (0 * 3)).add 0 = a := by simp [Addr.add]
            rw [hadd] at this
            exact spot_none this
          intro i hi
          have hsp := h0sp (by omega)
          obtain ⟨ab, ao, asp⟩ := a
          simp at hsp
          subst hsp
          have hq := hat i hi
          rw [List.getElem?_eq_getElem (by omega), cellsItem] at hq
          obtain ⟨csi, hci, hti⟩ := Option.bind_eq_some_iff.1 hq
          obtain ⟨c0', c1', c2', ti, rfl, hrep, hwt⟩ := ih m (by omega) csi _ hti
          obtain ⟨_, _, hc⟩ := World.cells?_some hci
          have k0 := hc 0 (by omega)
          have k1 := hc 1 (by omega)
          have k2 := hc 2 (by omega)
          rw [add_none, add_none] at k0 k1 k2
          simp at k0 k1 k2
          have hblk : ab < W.heap.size := by
            have := World.block_lt_of_cell? W _ k0
            exact this
          refine ⟨ti, ⟨ab, ao, c0', c1', c2', rfl, hblk, k0, k1, k2, hrep⟩, ?_⟩
          intro d hd
          rw [List.getElem?_map, List.getElem?_eq_getElem (by omega)] at hd
          simp at hd
          subst hd
          exact hwt
        obtain ⟨l, hll, hlp⟩ := choose_list len hex
        refine ⟨_, _, _, ⟨lb, s.data.toList, l⟩, rfl, ⟨some a, cap, by simp [hll], by show l.length ≤ maxLen; omega, fun i hi => ?_⟩, ?_⟩
        · obtain ⟨b, off, d0, d1, d2, e1, e2, e3, e4, e5, hrep⟩ := (hlp i hi).1
          exact ⟨b, off, d0, d1, d2, e1, e2, e3, e4, e5, rep_more _ _ _ hrep⟩
        · have hsum := sum_wt l (elems.map (·.1)) (by simp; omega) (fun i h h2 => (hlp i h).2 _ (List.getElem?_eq_getElem h2))
          rw [Itm.wt_eq]
          simp only [List.map_cons, List.map_nil, Rows.uptoBulk, Rows.uptoBulkAll]
          simp only [Array.length_toList]
          omega
end Go.Proofs.Ytplfjengfhijhaa
