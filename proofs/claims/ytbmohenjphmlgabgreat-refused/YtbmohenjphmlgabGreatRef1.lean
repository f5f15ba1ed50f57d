/- Helpers for the statement Refused: numbers out of raw ones, texts of noughts, an item with a stray field. -/
import Derived.Test.YtbmohenjphmlgabGreatKp8
import Derived.Test.YtbmohenjphmlgabGreatEncode
import Derived.Test.YtbmohenjphmlgabGreatDecode
namespace Go.Proofs.YtbmohenjphmlgabGreat
open Go.RowKit
set_option maxRecDepth 100000

theorem pick_any (c n : Int) (w : World) (hn : 0 < n) (h1 : -9223372036854775808 ≤ c) (h2 : c ≤ 9223372036854775807) (hn2 : n ≤ 9223372036854775807) : Calls Tryz.prog 22 #[.int .i64 c, .int .i64 n] w fun e w' => (∃ m : Int, e = .returned (.int .i64 m) ∧ 0 ≤ m ∧ m < n) ∧ w' = w := by
  have hn0 : ¬ n = 0 := by omega
  by_cases hc : c < 0
  · go_enter Tryz.func22, Tryz.ntmps22
    go_wp2_with fail
    go_ret
    refine ⟨⟨_, rfl, ?_, ?_⟩, rfl⟩
    · rw [← Int.neg_tmod, Int.tmod_eq_emod_of_nonneg (by omega)]; exact Int.emod_nonneg _ (by omega)
    · rw [← Int.neg_tmod, Int.tmod_eq_emod_of_nonneg (by omega)]; exact Int.emod_lt_of_pos _ hn
  · go_enter Tryz.func22, Tryz.ntmps22
    go_wp2_with fail
    go_ret
    refine ⟨⟨_, rfl, ?_, ?_⟩, rfl⟩
    · exact Int.emod_nonneg _ (by omega)
    · exact Int.emod_lt_of_pos _ hn

theorem outside_any (c : Int) (w : World) : Calls Tryz.prog 23 #[.int .i64 c, .int .i64 1000001] w fun e w' => (∃ m : Int, e = .returned (.int .i64 m) ∧ (m < 0 ∨ 1000000 < m)) ∧ w' = w := by
  by_cases hc : 0 ≤ c
  · by_cases hd : c < 1000001
    · go_enter Tryz.func23, Tryz.ntmps23
      go_wp2_with fail
      go_ret
      exact ⟨⟨_, rfl, .inr (by omega)⟩, rfl⟩
    · go_enter Tryz.func23, Tryz.ntmps23
      go_wp2_with fail
      go_ret
      exact ⟨⟨_, rfl, .inr (by omega)⟩, rfl⟩
  · go_enter Tryz.func23, Tryz.ntmps23
    go_wp2_with fail
    go_ret
    exact ⟨⟨_, rfl, .inl (by omega)⟩, rfl⟩

/-- A row of noughts that is made: what counts of it is that it is a text of so many bytes. -/
theorem wpList_make_text {ops : Array Oper} {rest : List Oper} {o : Oper} {a : Act} {Q : Exit → Act → World → Prop} {w : World} (hg : o.guard = none) (n : Nat) (hop : o.op = Op.makeSlice 46 (.const (.int .i64 n)) (.const (.int .i64 n))) (hn : n ≤ 100000)
    (h : ∀ w1 (s : ByteArray), s.size = n → (convert 46 9 (.slice (some ⟨w.heap.size, 0, none⟩) n n)).run Tryz.prog w1 = .ok (.string s) w1 → Below w.heap.size w w1 → wpList Tryz.prog ops Q rest (a.put o.dst (.slice (some ⟨w.heap.size, 0, none⟩) n n)) w1) : wpList Tryz.prog ops Q (o :: rest) a w := by
  obtain ⟨i0, hi, hz0, hz1, hz2⟩ := info_parts infoByte
  refine wpList_make_full w hg _ _ 46 hop w.heap.size 5 i0 _ 1 Tryz.underlying46 hi hz0 hz1 .i64 .i64 n n n rfl rfl rfl rfl (by rw [hz2]; omega) (by unfold maxLen; omega) (Nat.le_refl _) ?_
  intro w1 hrow hgr
  have hb : Below w.heap.size w w1 := ⟨hgr.os, hgr.tape, hgr.output, hgr.size, fun k hk => hgr.block k hk (by simp)⟩
  have hR : Bown w1 w.heap.size (.slice (some ⟨w.heap.size, 0, none⟩) n n) (List.replicate n 0) := by
    unfold Bown
    rw [List.length_replicate]
    have : Lib.byteCells (List.replicate n 0) = (madeCells (Value.int .u8 0).cells (n * 1)).toList := by
      rw [Nat.mul_one, show (Value.int .u8 0).cells = #[Value.int .u8 0] from rfl, toList_madeCells_one]
      simp [Lib.byteCells]
    rw [this]
    simpa using hrow
  refine h w1 ⟨(List.replicate n 0).toArray⟩ ?_ (run_bytes_string (brd_of_bown hR)) hb
  show (List.replicate n (0 : UInt8)).toArray.size = n
  simp

/-- A row that is made, of which only the length counts. -/
theorem wpList_make_row {ops : Array Oper} {rest : List Oper} {o : Oper} {a : Act} {Q : Exit → Act → World → Prop} {w : World} (hg : o.guard = none) (n : Nat) (t e : TypeId) (z : Value) (size bytes : Nat) (hop : o.op = Op.makeSlice t (.const (.int .i64 n)) (.const (.int .i64 n))) (hn : n ≤ 100000)
    (ht : Tryz.prog.underlying t = some (.slice e)) (hi : (Tryz.prog.info? e).map (fun i => (i.zero, i.size, i.bytes)) = some (some z, size, bytes)) (hby : bytes ≤ 1000)
    (h : ∀ w1, Below w.heap.size w w1 → wpList Tryz.prog ops Q rest (a.put o.dst (.slice (some ⟨w.heap.size, 0, none⟩) n n)) w1) : wpList Tryz.prog ops Q (o :: rest) a w := by
  obtain ⟨i0, hi, hz0, hz1, hz2⟩ := info_parts hi
  refine wpList_make_full w hg _ _ t hop w.heap.size e i0 _ size ht hi hz0 hz1 .i64 .i64 n n n rfl rfl rfl rfl (by rw [hz2]; exact Nat.le_trans (Nat.mul_le_mul hby hn) (by decide)) (by unfold maxLen; omega) (Nat.le_refl _) ?_
  intro w1 hrow hgr
  exact h w1 ⟨hgr.os, hgr.tape, hgr.output, hgr.size, fun k hk => hgr.block k hk (by simp)⟩

/-- Bytes of too many: refused. -/
theorem encode_bytes (s : ByteArray) (w : World) (hs : s.size = 998) : Calls Tryz.prog 19 #[.agg #[.bool false, .string s, .slice none 0 0]] w fun e w' => e = .returned (.tuple #[.string ⟨#[]⟩, .int .i64 2]) ∧ Below w.heap.size w w' := by
  have hE : Itm.encA ⟨false, s.data.toList, []⟩ = ([], 2) := by
    refine Itm.encA_big (by rw [Itm.pure_eq]; rfl) (fun h => ?_)
    have h2 := h.2
    rw [Itm.enc_eq, if_neg (by simp)] at h2
    unfold Itm.encB at h2
    have hl : s.data.toList.length = 998 := by rw [ba_len]; exact hs
    rw [if_neg (by unfold Itm.stands; simp [hl])] at h2
    unfold Itm.headed Itm.head at h2
    rw [if_neg (by rw [hl]; decide), hl, Itm.be_large (by decide), Itm.be_small (by decide)] at h2
    simp at h2
    omega
  have := encode_any 0 ⟨false, s.data.toList, []⟩ w (.agg #[.bool false, .string s, .slice none 0 0]) (by rw [Itm.cnt_eq]; simp) ⟨none, 0, by simp, by simp [maxLen], fun i hi => by simp at hi⟩
  rw [hE] at this
  exact this

/-- An item with a stray field: refused. -/
theorem encode_stray (g cap : Nat) (w : World) (hg : w.heap[g]? = some (.cells #[.bool false, .string ⟨#[]⟩, .slice none 0 0] 50 (0, 0))) : Calls Tryz.prog 19 #[.agg #[.bool false, .string ⟨#[]⟩, .slice (some ⟨g, 0, none⟩) 1 cap]] w fun e w' => e = .returned (.tuple #[.string ⟨#[]⟩, .int .i64 1]) ∧ Below w.heap.size w w' := by
  have hE : Itm.encA ⟨false, [], [⟨false, [], []⟩]⟩ = ([], 1) := Itm.encA_impure (by rw [Itm.pure_eq]; rfl)
  have := encode_any 1 ⟨false, [], [⟨false, [], []⟩]⟩ w (.agg #[.bool false, .string ⟨#[]⟩, .slice (some ⟨g, 0, none⟩) 1 cap]) (by rw [Itm.cnt_eq]; simp [Itm.cnt_eq]) ⟨some ⟨g, 0, none⟩, cap, rfl, by simp [maxLen], fun i hi => by
    obtain rfl : i = 0 := by simpa using hi
    exact ⟨g, 0, _, _, _, rfl, (Array.getElem?_eq_some_iff.1 hg).1, cell_of_row _ _ 0 _ _ _ hg, cell_of_row _ _ 1 _ _ _ hg, cell_of_row _ _ 2 _ _ _ hg, ⟨none, 0, rfl, by simp [maxLen], fun i hi => by simp at hi⟩⟩⟩
  rw [hE] at this
  exact this

end Go.Proofs.YtbmohenjphmlgabGreat
