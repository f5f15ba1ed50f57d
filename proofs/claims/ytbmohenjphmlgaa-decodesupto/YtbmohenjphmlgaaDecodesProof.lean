/- The statement Decodes is proved where what it reads is of bulk at most 1048576 (its second form): the call returns true, and the texts read as they did. -/
import Derived.Test.YtbmohenjphmlgaaPart6
import Derived.Test.YtbmohenjphmlgaaPart15
import Derived.SliceStrings
namespace Go.Proofs.Ytbmohenjphmlgaa
open Go.ChangeShapes Go.WideShapes Go.ChangeAt Go.RowKit
set_option maxRecDepth 100000

theorem decodes_own : ownKnob Try.prog.godebug = none := by kernel_rfl
theorem decodes_laidOut : laidOutB Try.prog = true := by kernel_rfl

theorem decodes_contract (Hd : Type) (enc : TypeId × Value → Hd) (W : World) (base : Nat) (args : Array Value) (ds gs : List (DataW Hd)) (before : List MemPlace)
    (hval : ∀ (j : Nat) t v, Try.f4.params[j]? = some t → args[j]? = some v → Value.okWide Try.prog W .any base t v)
    (hW : DataW.Whole enc Try.prog Try.f4.params.toList Rows.decodesSpec.vars false W args.toList ds gs before) (hk : Rows.uptoSmall Hd (ds ++ gs) = true) :
    Calls Try.prog 4 args W fun e W' => ∃ v, e = .returned v ∧ Rows.decodesSpec.post enc Try.prog Try.f4 false true false false W args v W' := by
  have hW' := hW
  obtain ⟨p, q, hA0, hV, rfl, _, _⟩ := hW
  have hA : DataW.TrodAll enc Try.prog W 0 (fun _ => true) true Try.f4.params.toList args.toList ds p := hA0
  rw [Try.params4] at hA hval
  obtain ⟨v0, vs0, d0, ds0, p0, q0, hargs, rfl, rfl, h0, r0⟩ := trodAll_cons hA
  obtain ⟨rfl, rfl, rfl⟩ := trodAll_nil r0
  obtain rfl : args = #[v0] := by cases args; simp_all
  obtain ⟨rfl, rfl⟩ := trodVars_none hV
  obtain ⟨a0, len, cap, rfl⟩ := okWide_slice Try.underlying34 (hval 0 34 v0 rfl rfl)
  have k0 := h0
  have lt0 : ∀ x ∈ p0, x.block < W.heap.size := by obtain ⟨m, hm⟩ := k0; exact DataW.trod_lt m _ _ _ hm
  obtain ⟨fuel, hf⟩ := h0
  have hb := of_decide_eq_true hk
  clear hA0
  have hex : ∃ ss : List ByteArray, ss.length = len ∧ ss.length ≤ 2000000 ∧ StrRow W a0 ss := by
    rcases open_strings Try.underlying34 Try.underlying9 cellsStr hf with ⟨hcs, hx⟩ | ⟨a, len', cap', ss, hcs, _, hl, hm, hz, hx, hcell, hsz⟩
    · simp [Value.cells] at hcs
      obtain ⟨rfl, rfl, rfl⟩ := hcs
      exact ⟨[], rfl, by simp, fun i h => by simp at h⟩
    · simp [Value.cells] at hcs
      obtain ⟨rfl, rfl, rfl⟩ := hcs
      have hlen : len ≤ ss.length := by rw [hz]; split <;> omega
      refine ⟨ss.take len, by simp; omega, ?_, ?_⟩
      · have h1 : d0 = .slice (strs (ss.take len)) (strs (ss.drop len)) := congrArg Prod.fst hx
        subst h1
        simp only [List.cons_append, List.nil_append, Rows.uptoBulkAll, Rows.uptoBulk] at hb
        have h2 : ∀ l : List ByteArray, l.length ≤ Rows.uptoBulkAll (strs (H := Hd) l) := by
          intro l
          induction l with
          | nil => simp
          | cons x l ih =>
            simp only [strs, List.map_cons, Rows.uptoBulkAll, Rows.uptoBulk, List.length_cons]
            simp only [strs] at ih
            omega
        have h3 := h2 (ss.take len)
        omega
      · intro i hi
        have hi' : i < len := by simp at hi; omega
        have hc := hcell i (by omega)
        have hc0 := hcell 0 (by omega)
        have hsp := spot_none hc0
        obtain ⟨ab, ao, asp⟩ := a
        simp [Addr.add] at hsp
        subst hsp
        rw [add_none] at hc
        refine ⟨ab, ao, rfl, World.block_lt_of_cell? W _ hc, ?_⟩
        rw [hc, List.getElem_take]
        simp [List.getD_eq_getElem?_getD, List.getElem?_eq_getElem (show i < ss.length by omega)]
  obtain ⟨ss, rfl, hn, hr⟩ := hex
  refine (decodes_any W a0 cap ss hr hn).mono fun e W' ⟨he, bel⟩ => ?_
  subst he
  exact ⟨_, rfl, _, _, _, [], _, [], hW', trodAll_mk1 (shut_bool Try.underlying4 _), trodAll_cons_mk (Below.trod decodes_laidOut (by kernel_rfl) (of_decide_eq_true (by kernel_rfl)) k0 bel lt0) trodAll_mk0, rfl, bel.frame _, fun h => by cases h⟩

theorem decodes_lifted (os : Os) (started : os.Started) (Hd : Type) (enc : TypeId × Value → Hd) (F : Stop.Interp) :
    ReturnsInHanded {} Try.checked os 4 .any ((Rows.OpenSpec.upto Rows.decodesSpec).pre6 enc Try.prog Try.f4 Rows.decodesUptoRow.domain false) (((Rows.OpenSpec.upto Rows.decodesSpec).at F).post enc Try.prog Try.f4 false true false false) := by
  refine returnsInHanded_of_cond (C := Try.checked) (s := Rows.OpenSpec.upto Rows.decodesSpec) (k := Rows.uptoSmall) rfl decodes_own started (by kernel_rfl) Try.func4
    (OpenSpec.witness (enc := enc) (C := Try.checked) (s := Rows.OpenSpec.upto Rows.decodesSpec) (k := Rows.uptoSmall) rfl false ⟨#[], #[.slice none 0 0], []⟩ 8 (by kernel_rfl) (by kernel_rfl) (by kernel_rfl)
      (x := ([.nil], [], [])) (by kernel_rfl) rfl (by kernel_rfl)) ?_
  intro W base args ds gs before hval hW _ hk _
  exact decodes_contract Hd enc W base args ds gs before hval hW hk

theorem decodes_holds : Rows.DecodesUptoSaid :=
  OpenClaim.holds_of_cond 4 Try.f4 rfl rfl rfl rfl rfl rfl rfl ⟨rfl, rfl, rfl, rfl, rfl⟩ rfl rfl rfl rfl rfl (by kernel_rfl) Try.func4 (by kernel_rfl)
    (of_decide_eq_true (by kernel_rfl)) (by unfold Func.isWrapper; first | (rw [if_pos (by decide +kernel)]; kernel_rfl) | (rw [if_neg (by decide +kernel)]; exact ⟨rfl, rfl⟩))
    (fun os started H enc _ F => decodes_lifted os started H enc F)

end Go.Proofs.Ytbmohenjphmlgaa
