/- Laws on bytes that are appended, and on sums and digits, for walks. -/
import Derived.Test.YtbmohenjphmlgaaTrMath
import Derived.Test.YtbmohenjphmlgaaBytes
import Derived.Deep.RegionHeld3
import Derived.Deep.AppendLies
namespace Go.Proofs.Ytbmohenjphmlgaa
open Go.RowKit
set_option maxRecDepth 100000

/-- Bytes that were just laid are appended to a row of the call's own: for a walk. -/
theorem wpList_push_bytes {ops : Array Oper} {rest : List Oper} {o : Oper} {act : Act} {Q' : Exit → Act → World → Prop} (hgd : o.guard = none) (s x : Operand)
    (hop : o.op = .call { callee := .builtin .append, args := #[s, x], argTypes := #[76, 76] }) {W wr : World} {B : Nat} {v1 : Value} {l1 : List UInt8} {zs : Array Value} (news : List UInt8) (L : Nat) (hL : wr.heap.size = L)
    (hs : act.eval s = v1) (hx : act.eval x = .slice (some ⟨L, 0, none⟩) news.length news.length) (ho : Bown wr B v1 l1) (hb : Below B W wr) (hB : B ≤ W.heap.size) (hz : zs.toList = Lib.byteCells news) (hlen : l1.length + news.length ≤ 1000000000)
    (h : ∀ v' w', Bown w' B v' (l1 ++ news) → Below B W w' → wpList Try.prog ops Q' rest (act.put o.dst v') w') : wpList Try.prog ops Q' (o :: rest) act (wr.alloc (.cells zs 5)) := by
  subst hL
  have hb2 : Below B W (wr.alloc (.cells zs 5)) := hb.alloc (Nat.le_trans hB hb.size) _
  have hBw : B ≤ (wr.alloc (.cells zs 5)).heap.size := Nat.le_trans hB hb2.size
  have ho2 : Bown (wr.alloc (.cells zs 5)) B v1 l1 := bown_frame ho (fun g hg => Below.heap_alloc _ _ _ (bown_lt ho g hg).2)
  have hbr : Brd (wr.alloc (.cells zs 5)).heap.size (wr.alloc (.cells zs 5)) (.slice (some ⟨wr.heap.size, 0, none⟩) news.length news.length) news := by
    refine .inr ⟨wr.heap.size, 0, news.length, rfl, by simp, fun j hj => ?_⟩
    rw [cell_of_row _ _ (0 + j) zs _ _ (heap_alloc_new wr _)]
    have : zs[0 + j]? = zs.toList[j]? := by simp
    rw [this, hz]
    simp [Lib.byteCells, List.getElem?_eq_getElem hj]
  refine wpList_append_bytes _ hgd s x hop B _ v1 _ l1 news hs hx ho2 hbr hlen hBw ?_
  intro v' w' ho' hg _
  exact h v' w' ho' (hb2.grown hg hBw (fun g hgg => (bown_lt ho g hgg).1))

theorem fnv_snoc (s : ByteArray) (k : Nat) (h : k < s.size) : Tr.fnv (s.data.toList.take (k + 1)) = Tr.step (Tr.fnv (s.data.toList.take k)) s[k] := by
  rw [take_snoc s k h, Tr.fnv_append]

theorem step_val (h : Nat) (c : UInt8) (hh : h < 18446744073709551616) : IntKind.u64.wrap (bits .xor .u64 (h : Int) (IntKind.u64.wrap (c.toNat : Int)) * 1099511628211) = ((Tr.step h c : Nat) : Int) := by
  have hc : c.toNat < 256 := c.toNat_lt
  have e2 : IntKind.u64.wrap (c.toNat : Int) = (c.toNat : Int) := by rw [IntKind.wrap_u64]; exact Int.emod_eq_of_lt (by omega) (by omega)
  rw [e2, u64_xor_nat _ _ hh (by omega), IntKind.wrap_u64]
  unfold Tr.step
  generalize h ^^^ c.toNat = x
  omega

/-- A byte of the sum, as the walk spells it. -/
theorem sum_byte (n m : Nat) (hn : n < 18446744073709551616) : bits .and .u64 ((n : Int) / 2 ^ (8 * (7 - m))) 255 % 256 = (((Tr.sumAt n m).toNat : Nat) : Int) := by
  have e2 : (n : Int) / 2 ^ (8 * (7 - m)) = ((n / 256 ^ (7 - m) : Nat) : Int) := by
    have : (256 : Nat) ^ (7 - m) = 2 ^ (8 * (7 - m)) := by rw [Nat.pow_mul]
    rw [this]
    simp
  rw [e2]
  have h3 : n / 256 ^ (7 - m) < 18446744073709551616 := Nat.lt_of_le_of_lt (Nat.div_le_self _ _) hn
  have h4 := u64_and_nat (n / 256 ^ (7 - m)) 255 h3 (by decide)
  rw [show ((255 : Nat) : Int) = 255 from rfl] at h4
  rw [h4]
  have h5 : n / 256 ^ (7 - m) &&& 255 = n / 256 ^ (7 - m) % 256 := Nat.and_two_pow_sub_one_eq_mod _ 8
  rw [h5]
  unfold Tr.sumAt
  simp

/-- Bytes that were just laid are appended to a row of the call's own: at a step of a region that draws. -/
theorem step_push_bytes {ops : Array Oper} {o : Oper} {act : Act} {K : Act → World → Prop} {Q' : Exit → Act → World → Prop} {E : Prop} (hgd : o.guard = none) (s x : Operand)
    (hop : o.op = .call { callee := .builtin .append, args := #[s, x], argTypes := #[76, 76] }) {W wr : World} {B : Nat} {v1 : Value} {l1 : List UInt8} {zs : Array Value} (news : List UInt8) (L : Nat) (hL : wr.heap.size = L)
    (hs : act.eval s = v1) (hx : act.eval x = .slice (some ⟨L, 0, none⟩) news.length news.length) (ho : Bown wr B v1 l1) (hb : Below B W wr) (hB : B ≤ W.heap.size) (hz : zs.toList = Lib.byteCells news) (hlen : l1.length + news.length ≤ 1000000000)
    (h : ∀ v' w', Bown w' B v' (l1 ++ news) → Below B W w' → K (act.put o.dst v') w') : if Region.wanted o (yielded ops act.tmps) = true then Oper.wp Try.prog o act (wr.alloc (.cells zs 5)) K Q' else E := by
  subst hL
  have hw : Region.wanted o (yielded ops act.tmps) = true := by simp [Region.wanted, hgd]
  rw [if_pos hw]
  obtain ⟨i0, hi, hz0, hz1, hz2⟩ := info_parts infoByte
  have hb2 : Below B W (wr.alloc (.cells zs 5)) := hb.alloc (Nat.le_trans hB hb.size) _
  have hBw : B ≤ (wr.alloc (.cells zs 5)).heap.size := Nat.le_trans hB hb2.size
  have ho2 : Bown (wr.alloc (.cells zs 5)) B v1 l1 := bown_frame ho (fun g hg => Below.heap_alloc _ _ _ (bown_lt ho g hg).2)
  have hnews : ∀ j u, (Lib.byteCells news)[j]? = some u → (wr.alloc (.cells zs 5)).cell? ((⟨wr.heap.size, 0, none⟩ : Addr).add j) = some u := by
    rw [← hz]
    exact World.news_of_block (heap_alloc_new wr _)
  obtain ⟨v', w', hr, h2, h3, _⟩ := run_append_mine (P := Try.prog) _ B 76 o.type 5 i0 _ 1 1 Try.underlying76 hi hz0 hz1 hz2 rfl (by decide) v1 l1.length (Lib.byteCells l1) ho2 ⟨wr.heap.size, 0, none⟩ news.length news.length (Lib.byteCells news) (by rw [Lib.byteCells_length]; omega) hnews (byteCells_one news) (by unfold maxLen; omega) (by omega) hBw
  unfold Oper.wp execOp
  simp only [hop, resolve, invoke, builtin, Sem.run_bind, Sem.run_pure, Result.andThen_ok, List.map_toArray, List.map_cons, List.map_nil, hs, hx, hr]
  refine h v' w' ?_ (hb2.grown h3 hBw (fun g hgg => (bown_lt ho g hgg).1))
  unfold Bown
  rw [List.length_append, Lib.byteCells_append]
  exact h2

theorem wrap_u8_small (n : Nat) (h : n < 256) : IntKind.u8.wrap (n : Int) = (n : Int) := by rw [IntKind.wrap_u8]; omega

theorem digit_cells (c : UInt8) : #[Value.int .u8 (IntKind.u8.wrap ((c.toNat : Int) / 16)), Value.int .u8 ((c.toNat : Int).tmod 16)].toList = Lib.byteCells [UInt8.ofNat (c.toNat / 16), UInt8.ofNat (c.toNat % 16)] := by
  have := c.toNat_lt
  simp only [Lib.byteCells, List.map_cons, List.map_nil]
  have e1 : (UInt8.ofNat (c.toNat / 16)).toNat = c.toNat / 16 := by simp; omega
  have e2 : (UInt8.ofNat (c.toNat % 16)).toNat = c.toNat % 16 := by simp; omega
  have e3 : (c.toNat : Int) / 16 = ((c.toNat / 16 : Nat) : Int) := by omega
  have e4 : (c.toNat : Int).tmod 16 = ((c.toNat % 16 : Nat) : Int) := by rw [Int.tmod_eq_emod_of_nonneg (by omega)]; omega
  rw [e1, e2, e3, e4, wrap_u8_small _ (by omega)]

end Go.Proofs.Ytbmohenjphmlgaa
