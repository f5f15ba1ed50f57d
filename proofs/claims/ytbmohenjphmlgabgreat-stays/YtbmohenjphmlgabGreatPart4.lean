/- Part 4 of a proof: what the last text needs. -/
import Derived.Test.YtbmohenjphmlgabGreatPart3
import Derived.Laws.BytesArg
import Derived.Lib.ConvBytes
import Derived.Lib.UnsafeStr
import Derived.Test.YtbmohenjphmlgabGreatPart1
import Derived.Deep.RegionHeld3
import Derived.Deep.AppendLies
import Derived.Test.YtbmohenjphmlgabGreatPart2
/- Rows of bytes: those of the call's own, which grow by append; those that are read alone. -/
namespace Go.Proofs.YtbmohenjphmlgabGreat
open Go.RowKit
set_option maxRecDepth 100000

theorem infoByte : (Tryz.prog.info? 5).map (fun i => (i.zero, i.size, i.bytes)) = some (some (.int .u8 0), 1, 1) := by kernel_rfl

/-- A row of bytes of the call's own. -/
def Bown (w : World) (base : Nat) (v : Value) (l : List UInt8) : Prop := w.ownsRow base 5 1 v l.length (Lib.byteCells l)

/-- Bytes that can be read. -/
def Brd (B : Nat) (w : World) (v : Value) (l : List UInt8) : Prop :=
  (v = .slice none 0 0 ∧ l = []) ∨ ∃ b off cap, v = .slice (some ⟨b, off, none⟩) l.length cap ∧ b < B ∧ ∀ j (h : j < l.length), w.cell? ⟨b, off + j, none⟩ = some (.int .u8 (l[j].toNat : Nat))

theorem bown_nil (w : World) (base : Nat) : Bown w base (.slice none 0 0) [] := World.ownsRow_nil _ _ _ _

theorem bown_one (w : World) (base : Nat) (c : UInt8) (hb : base ≤ w.heap.size) : Bown (w.alloc (.cells #[.int .u8 (c.toNat : Nat)] 5)) base (.slice (some ⟨w.heap.size, 0, none⟩) 1 1) [c] := by
  have := World.ownsRow_lit (base := base) (e := 5) (size := 1) w #[.int .u8 (c.toNat : Nat)] 1 hb (by unfold maxLen; omega) rfl
  simpa [Bown, Lib.byteCells] using this

theorem bown_base {w : World} {b b' : Nat} {v : Value} {l : List UInt8} (h : Bown w b v l) (hb : b' ≤ b) : Bown w b' v l := owns_base h hb

theorem bown_frame {w w' : World} {b : Nat} {v : Value} {l : List UInt8} (h : Bown w b v l) (hg : ∀ g, v.ownBlock = some g → w'.heap[g]? = w.heap[g]?) : Bown w' b v l := owns_frame h hg

theorem bown_lt {w : World} {b : Nat} {v : Value} {l : List UInt8} (h : Bown w b v l) : ∀ g, v.ownBlock = some g → b ≤ g ∧ g < w.heap.size := World.ownsRow.lt h

theorem brd_of_bown {w : World} {b : Nat} {v : Value} {l : List UInt8} (h : Bown w b v l) : Brd w.heap.size w v l := by
  rcases h.2 with ⟨rfl, h0⟩ | ⟨g, cap, cur, rfl, hb, hg, _, _, _, _⟩
  · exact .inl ⟨rfl, List.eq_nil_of_length_eq_zero h0⟩
  · refine .inr ⟨g, 0, cap, rfl, (Array.getElem?_eq_some_iff.1 hg).1, ?_⟩
    intro j hj
    rw [Nat.zero_add, World.ownsRow.cellAt h j (by omega)]
    simp [Lib.byteCells, hj]

theorem brd_frame {B : Nat} {w w' : World} {v : Value} {l : List UInt8} (h : Brd B w v l) (hb : Below B w w') : Brd B w' v l := by
  rcases h with h | ⟨b, off, cap, hv, hlt, hc⟩
  · exact .inl h
  · exact .inr ⟨b, off, cap, hv, hlt, fun j hj => by rw [hb.cell hlt]; exact hc j hj⟩

theorem brd_wider {B B' : Nat} {w : World} {v : Value} {l : List UInt8} (h : Brd B w v l) (hB : B ≤ B') : Brd B' w v l := by
  rcases h with h | ⟨b, off, cap, hv, hlt, hc⟩
  · exact .inl h
  · exact .inr ⟨b, off, cap, hv, by omega, hc⟩

theorem brd_in {w w' : World} {v : Value} {l : List UInt8} (h : Brd w.heap.size w v l) (hb : Below w.heap.size w w') : Brd w'.heap.size w' v l := brd_wider (brd_frame h hb) hb.size

theorem brd_shape {B : Nat} {w : World} {v : Value} {l : List UInt8} (h : Brd B w v l) : ∃ a cap, v = .slice a l.length cap := by
  rcases h with ⟨rfl, rfl⟩ | ⟨b, off, cap, hv, _⟩
  · exact ⟨none, 0, rfl⟩
  · exact ⟨_, _, hv⟩

theorem bown_shape {w : World} {b : Nat} {v : Value} {l : List UInt8} (h : Bown w b v l) : ∃ a cap, v = .slice a l.length cap := brd_shape (brd_of_bown h)

theorem cell_fact {w : World} {b off : Nat} {l : List UInt8} (hc : ∀ j (h : j < l.length), w.cell? ⟨b, off + j, none⟩ = some (.int .u8 (l[j].toNat : Nat))) :
    ∀ j u, (Lib.byteCells l)[j]? = some u → w.cell? ((⟨b, off, none⟩ : Addr).add j) = some u := by
  intro j u hu
  have hadd : (⟨b, off, none⟩ : Addr).add j = ⟨b, off + j, none⟩ := by unfold Addr.add; split <;> simp_all
  have hj : j < l.length := by
    have := (List.getElem?_eq_some_iff.1 hu).1
    simpa [Lib.byteCells] using this
  rw [hadd, hc j hj]
  simp [Lib.byteCells, hj] at hu
  rw [hu]

theorem byteCells_one (l : List UInt8) : ∀ u ∈ Lib.byteCells l, u.oneCell' = true := by
  intro u hu
  simp only [Lib.byteCells, List.mem_map] at hu
  obtain ⟨c, _, rfl⟩ := hu
  rfl

/-- append of bytes that can be read, to a row of the call's own: for a walk. -/
theorem wpList_append_bytes {ops : Array Oper} {rest : List Oper} {o : Oper} {act : Act} {Q : Exit → Act → World → Prop} (w : World) (hgd : o.guard = none) (s x : Operand)
    (hop : o.op = .call { callee := .builtin .append, args := #[s, x], argTypes := #[46, 46] })
    (base B : Nat) (v1 v2 : Value) (l1 l2 : List UInt8) (hs : act.eval s = v1) (hx : act.eval x = v2) (h1 : Bown w base v1 l1) (h2 : Brd B w v2 l2) (hlen : l1.length + l2.length ≤ 1000000000) (hbase : base ≤ w.heap.size)
    (h : ∀ v' w', Bown w' base v' (l1 ++ l2) → w.grownBy w' v1.ownBlock → Newer w v1 v' → wpList Tryz.prog ops Q rest (act.put o.dst v') w') :
    wpList Tryz.prog ops Q (o :: rest) act w := by
  obtain ⟨i0, hi, hz0, hz1, hz2⟩ := info_parts infoByte
  rcases h2 with ⟨rfl, rfl⟩ | ⟨b, off, cap, rfl, _, hc⟩
  · refine wpList_plain hgd fun K hK => ?_
    have hr := run_append_owned_none (P := Tryz.prog) w base 46 o.type 5 i0 1 Tryz.underlying46 hi v1 _ _ h1
    unfold Oper.wp execOp
    simp only [hop, resolve, invoke, builtin, Sem.run_bind, Sem.run_pure, Result.andThen_ok, List.map_toArray, List.map_cons, List.map_nil, hs, hx, hr]
    exact hK _ _ (h v1 w (by rw [List.append_nil]; exact h1) (World.grownBy.refl _ _) (.inl rfl))
  · refine wpList_append_mine w hgd s x 46 hop base 5 i0 _ 1 1 Tryz.underlying46 hi hz0 hz1 hz2 rfl (by decide) v1 l1.length (Lib.byteCells l1) hs h1 ⟨b, off, none⟩ l2.length cap (Lib.byteCells l2) hx (by rw [Lib.byteCells_length]; omega) (cell_fact hc) (byteCells_one l2) (by unfold maxLen; omega) (by omega) hbase ?_
    intro v' w' ho hg hn
    refine h v' w' ?_ hg hn
    unfold Bown
    rw [List.length_append, Lib.byteCells_append]
    exact ho

/-- The string that bytes are. -/
theorem run_bytes_string {B : Nat} {w : World} {v : Value} {l : List UInt8} (h : Brd B w v l) : (convert 46 9 v).run Tryz.prog w = .ok (.string ⟨l.toArray⟩) w := by
  rcases h with ⟨rfl, rfl⟩ | ⟨b, off, cap, rfl, _, hc⟩
  · exact run_convert_bytes_nil w 46 5 Tryz.underlying46 Tryz.underlying5 0 0 9 Tryz.underlying9
  · have := run_convert_bytes_arg (P := Tryz.prog) w 46 5 Tryz.underlying46 Tryz.underlying5 b off l.length cap (l.map fun c => (c.toNat : Int)) (by simp) (fun i hi => by
      rw [hc i hi]; simp [hi]) 9 Tryz.underlying9
    rw [this]
    congr 2
    unfold strOfNums
    congr 1
    have hid : ((fun n : Int => UInt8.ofNat n.toNat) ∘ fun c : UInt8 => (c.toNat : Int)) = id := by funext c; simp
    simp [hid]

/-- The bytes of a string, as a new row. -/
theorem brd_bytesWorld (w : World) (s : ByteArray) (cap : Nat) : Brd (Lib.bytesWorld w 5 s).heap.size (Lib.bytesWorld w 5 s) (.slice (some ⟨w.heap.size, 0, none⟩) s.size cap) s.data.toList := by
  refine .inr ⟨w.heap.size, 0, cap, by rw [ba_len], by rw [Lib.bytesWorld_size]; omega, ?_⟩
  intro j hj
  rw [ba_len] at hj
  rw [Nat.zero_add, Lib.bytesWorld_cell w 5 s j hj, List.getD_eq_getElem?_getD, List.getElem?_eq_getElem (by rw [ba_len]; exact hj)]
  rfl

theorem below_bytesWorld (w : World) (s : ByteArray) : Below w.heap.size w (Lib.bytesWorld w 5 s) :=
  ⟨rfl, rfl, rfl, by rw [Lib.bytesWorld_size]; omega, fun k hk => Lib.bytesWorld_at_old w _ s k hk⟩

theorem run_string_bytes (w : World) (s : ByteArray) : (convert 9 46 (.string s)).run Tryz.prog w = .ok (.slice (some ⟨w.heap.size, 0, none⟩) s.size (grownCap w s.size 0 5)) (Lib.bytesWorld w 5 s) :=
  Lib.run_convert_string_bytes w 9 46 5 s Tryz.underlying9 Tryz.underlying46 Tryz.underlying5
end Go.Proofs.YtbmohenjphmlgabGreat

/- Laws on bytes that are appended, and on sums and digits, for walks. -/
namespace Go.Proofs.YtbmohenjphmlgabGreat
open Go.RowKit
set_option maxRecDepth 100000

/-- Bytes that were just laid are appended to a row of the call's own: for a walk. -/
theorem wpList_push_bytes {ops : Array Oper} {rest : List Oper} {o : Oper} {act : Act} {Q' : Exit → Act → World → Prop} (hgd : o.guard = none) (s x : Operand)
    (hop : o.op = .call { callee := .builtin .append, args := #[s, x], argTypes := #[46, 46] }) {W wr : World} {B : Nat} {v1 : Value} {l1 : List UInt8} {zs : Array Value} (news : List UInt8) (L : Nat) (hL : wr.heap.size = L)
    (hs : act.eval s = v1) (hx : act.eval x = .slice (some ⟨L, 0, none⟩) news.length news.length) (ho : Bown wr B v1 l1) (hb : Below B W wr) (hB : B ≤ W.heap.size) (hz : zs.toList = Lib.byteCells news) (hlen : l1.length + news.length ≤ 1000000000)
    (h : ∀ v' w', Bown w' B v' (l1 ++ news) → Below B W w' → wpList Tryz.prog ops Q' rest (act.put o.dst v') w') : wpList Tryz.prog ops Q' (o :: rest) act (wr.alloc (.cells zs 5)) := by
  subst hL
  have hb2 : Below B W (wr.alloc (.cells zs 5)) := hb.alloc (Nat.le_trans hB hb.size) _
  have hBw : B ≤ (wr.alloc (.cells zs 5)).heap.size := Nat.le_trans hB hb2.size
  have ho2 : Bown (wr.alloc (.cells zs 5)) B v1 l1 := bown_frame ho (fun g hg => Below.heap_alloc _ _ _ (bown_lt ho g hg).2)
  have hbr : Brd (wr.alloc (.cells zs 5)).heap.size (wr.alloc (.cells zs 5)) (.slice (some ⟨wr.heap.size, 0, none⟩) news.length news.length) news := by
    refine .inr ⟨wr.heap.size, 0, news.length, rfl, by simp, fun j hj => ?_⟩
    rw [cell_of_row _ _ (0 + j) zs _ _ (heap_alloc_new wr _)]
    have : zs[0 + j]? = zs.toList[j]? := by simp
    rw [this, hz]
    simp [Lib.byteCells, List.getElem?_eq_getElem hj]
  refine wpList_append_bytes _ hgd s x hop B _ v1 _ l1 news hs hx ho2 hbr hlen hBw ?_
  intro v' w' ho' hg _
  exact h v' w' ho' (hb2.grown hg hBw (fun g hgg => (bown_lt ho g hgg).1))

theorem fnv_snoc (s : ByteArray) (k : Nat) (h : k < s.size) : Tr.fnv (s.data.toList.take (k + 1)) = Tr.step (Tr.fnv (s.data.toList.take k)) s[k] := by
  rw [take_snoc s k h, Tr.fnv_append]

theorem step_val (h : Nat) (c : UInt8) (hh : h < 18446744073709551616) : IntKind.u64.wrap (bits .xor .u64 (h : Int) (IntKind.u64.wrap (c.toNat : Int)) * 1099511628211) = ((Tr.step h c : Nat) : Int) := by
  have hc : c.toNat < 256 := c.toNat_lt
  have e2 : IntKind.u64.wrap (c.toNat : Int) = (c.toNat : Int) := by rw [IntKind.wrap_u64]; exact Int.emod_eq_of_lt (by omega) (by omega)
  rw [e2, u64_xor_nat _ _ hh (by omega), IntKind.wrap_u64]
  unfold Tr.step
  generalize h ^^^ c.toNat = x
  omega

/-- A byte of the sum, as the walk spells it. -/
theorem sum_byte (n m : Nat) (hn : n < 18446744073709551616) : bits .and .u64 ((n : Int) / 2 ^ (8 * (7 - m))) 255 % 256 = (((Tr.sumAt n m).toNat : Nat) : Int) := by
  have e2 : (n : Int) / 2 ^ (8 * (7 - m)) = ((n / 256 ^ (7 - m) : Nat) : Int) := by
    have : (256 : Nat) ^ (7 - m) = 2 ^ (8 * (7 - m)) := by rw [Nat.pow_mul]
    rw [this]
    simp
  rw [e2]
  have h3 : n / 256 ^ (7 - m) < 18446744073709551616 := Nat.lt_of_le_of_lt (Nat.div_le_self _ _) hn
  have h4 := u64_and_nat (n / 256 ^ (7 - m)) 255 h3 (by decide)
  rw [show ((255 : Nat) : Int) = 255 from rfl] at h4
  rw [h4]
  have h5 : n / 256 ^ (7 - m) &&& 255 = n / 256 ^ (7 - m) % 256 := Nat.and_two_pow_sub_one_eq_mod _ 8
  rw [h5]
  unfold Tr.sumAt
  simp

/-- Bytes that were just laid are appended to a row of the call's own: at a step of a region that draws. -/
theorem step_push_bytes {ops : Array Oper} {o : Oper} {act : Act} {K : Act → World → Prop} {Q' : Exit → Act → World → Prop} {E : Prop} (hgd : o.guard = none) (s x : Operand)
    (hop : o.op = .call { callee := .builtin .append, args := #[s, x], argTypes := #[46, 46] }) {W wr : World} {B : Nat} {v1 : Value} {l1 : List UInt8} {zs : Array Value} (news : List UInt8) (L : Nat) (hL : wr.heap.size = L)
    (hs : act.eval s = v1) (hx : act.eval x = .slice (some ⟨L, 0, none⟩) news.length news.length) (ho : Bown wr B v1 l1) (hb : Below B W wr) (hB : B ≤ W.heap.size) (hz : zs.toList = Lib.byteCells news) (hlen : l1.length + news.length ≤ 1000000000)
    (h : ∀ v' w', Bown w' B v' (l1 ++ news) → Below B W w' → K (act.put o.dst v') w') : if Region.wanted o (yielded ops act.tmps) = true then Oper.wp Tryz.prog o act (wr.alloc (.cells zs 5)) K Q' else E := by
  subst hL
  have hw : Region.wanted o (yielded ops act.tmps) = true := by simp [Region.wanted, hgd]
  rw [if_pos hw]
  obtain ⟨i0, hi, hz0, hz1, hz2⟩ := info_parts infoByte
  have hb2 : Below B W (wr.alloc (.cells zs 5)) := hb.alloc (Nat.le_trans hB hb.size) _
  have hBw : B ≤ (wr.alloc (.cells zs 5)).heap.size := Nat.le_trans hB hb2.size
  have ho2 : Bown (wr.alloc (.cells zs 5)) B v1 l1 := bown_frame ho (fun g hg => Below.heap_alloc _ _ _ (bown_lt ho g hg).2)
  have hnews : ∀ j u, (Lib.byteCells news)[j]? = some u → (wr.alloc (.cells zs 5)).cell? ((⟨wr.heap.size, 0, none⟩ : Addr).add j) = some u := by
    rw [← hz]
    exact World.news_of_block (heap_alloc_new wr _)
  obtain ⟨v', w', hr, h2, h3, _⟩ := run_append_mine (P := Tryz.prog) _ B 46 o.type 5 i0 _ 1 1 Tryz.underlying46 hi hz0 hz1 hz2 rfl (by decide) v1 l1.length (Lib.byteCells l1) ho2 ⟨wr.heap.size, 0, none⟩ news.length news.length (Lib.byteCells news) (by rw [Lib.byteCells_length]; omega) hnews (byteCells_one news) (by unfold maxLen; omega) (by omega) hBw
  unfold Oper.wp execOp
  simp only [hop, resolve, invoke, builtin, Sem.run_bind, Sem.run_pure, Result.andThen_ok, List.map_toArray, List.map_cons, List.map_nil, hs, hx, hr]
  refine h v' w' ?_ (hb2.grown h3 hBw (fun g hgg => (bown_lt ho g hgg).1))
  unfold Bown
  rw [List.length_append, Lib.byteCells_append]
  exact h2

theorem wrap_u8_small (n : Nat) (h : n < 256) : IntKind.u8.wrap (n : Int) = (n : Int) := by rw [IntKind.wrap_u8]; omega

theorem digit_cells (c : UInt8) : #[Value.int .u8 (IntKind.u8.wrap ((c.toNat : Int) / 16)), Value.int .u8 ((c.toNat : Int).tmod 16)].toList = Lib.byteCells [UInt8.ofNat (c.toNat / 16), UInt8.ofNat (c.toNat % 16)] := by
  have := c.toNat_lt
  simp only [Lib.byteCells, List.map_cons, List.map_nil]
  have e1 : (UInt8.ofNat (c.toNat / 16)).toNat = c.toNat / 16 := by simp; omega
  have e2 : (UInt8.ofNat (c.toNat % 16)).toNat = c.toNat % 16 := by simp; omega
  have e3 : (c.toNat : Int) / 16 = ((c.toNat / 16 : Nat) : Int) := by omega
  have e4 : (c.toNat : Int).tmod 16 = ((c.toNat % 16 : Nat) : Int) := by rw [Int.tmod_eq_emod_of_nonneg (by omega)]; omega
  rw [e1, e2, e3, e4, wrap_u8_small _ (by omega)]

end Go.Proofs.YtbmohenjphmlgabGreat

/- The walks of digitsOf, oneDigit, packed, pathOf (of the program): digits and paths. -/
namespace Go.Proofs.YtbmohenjphmlgabGreat
open Go.RowKit
set_option maxRecDepth 100000

theorem u8_and15 : ∀ n : Fin 256, bits .and .u8 (n.val : Int) 15 = ((n.val % 16 : Nat) : Int) := by decide +kernel
theorem u8_or16 : ∀ (a : Fin 16) (b : Fin 16), bits .or .u8 (IntKind.u8.wrap ((a.val : Int) * 16)) (b.val : Int) = ((16 * a.val + b.val : Nat) : Int) := by decide +kernel

theorem bits_digit (c : UInt8) : #[Value.int .u8 ((c.toNat : Int) / 16), Value.int .u8 (bits .and .u8 (c.toNat : Int) 15)].toList = Lib.byteCells [UInt8.ofNat (c.toNat / 16), UInt8.ofNat (c.toNat % 16)] := by
  have := c.toNat_lt
  simp only [Lib.byteCells, List.map_cons, List.map_nil]
  have e1 : (UInt8.ofNat (c.toNat / 16)).toNat = c.toNat / 16 := by simp; omega
  have e2 : (UInt8.ofNat (c.toNat % 16)).toNat = c.toNat % 16 := by simp; omega
  have e3 : (c.toNat : Int) / 16 = ((c.toNat / 16 : Nat) : Int) := by omega
  have e4 := u8_and15 ⟨c.toNat, this⟩
  dsimp only at e4
  rw [e1, e2, e3, e4]

set_option maxHeartbeats 1600000 in
theorem digitsOf_any (s : ByteArray) (w : World) (hs : s.size ≤ 100000000) : Calls Tryz.prog 48 #[.string s] w fun e w' => e = .returned (.string ⟨(Tr.digits s.data.toList).toArray⟩) ∧ Below w.heap.size w w' := by
  obtain ⟨i0, hi, hz0, hz1, hz2⟩ := info_parts infoByte
  have HI := hid hi
  have HZ2 : Hid (i0.bytes * (2 * s.size) ≤ 281474976710656) := by rw [Hid, hz2]; omega
  have HML : Hid (2 * s.size ≤ maxLen) := by rw [Hid]; unfold maxLen; omega
  have HZ0 := hid hz0
  have HZ1 := hid hz1
  clear hi hz0 hz1 hz2
  have HD0 : Hid ((2 : Int) * (s.size : Int) = ((2 * s.size : Nat) : Int)) := by rw [Hid]; omega
  go_enter Tryz.func48, Tryz.ntmps48
  go_wp2_with (at_make; go_loud (refine wpList_make_own _ rfl _ (.tmp 7) 46 rfl w.heap.size 5 i0 (.int .u8 0) 1 Tryz.underlying46 HI.out HZ0.out HZ1.out .i64 .i64 _ (2 * s.size) rfl rfl HD0.out HZ2.out HML.out (Nat.le_refl _) ?_); intro w0 hown0 hgrow0; have HO0 := hid hown0; have HG0 := hid hgrow0; clear hown0 hgrow0)
  go_loopw [3, 11] (fun l i wr => ∃ k : Nat, i = .int .i64 k ∧ k ≤ s.size ∧ Hid (Bown wr w.heap.size l (Tr.digits (s.data.toList.take k)) ∧ Below w.heap.size w wr)) (fun _ i _ => s.size - (intOf i).toNat)
  case atStart => exact ⟨0, rfl, Nat.zero_le _, HO0.out, (Below.refl _ _).grown HG0.out (Nat.le_refl _) (fun g hg => by cases hg)⟩
  case round =>
    obtain ⟨k, rfl, hk, HH⟩ := hrel
    obtain ⟨ab, cb, hv⟩ := bown_shape HH.out.1
    by_cases hlt : k < s.size
    · subst hv
      have i1 : (0 : Int) ≤ (k : Int) := by omega
      have i2 : (k : Int) < (s.size : Int) := by omega
      have HD : Hid (Tr.digits (s.data.toList.take (k + 1)) = Tr.digits (s.data.toList.take k) ++ [UInt8.ofNat (s[k].toNat / 16), UInt8.ofNat (s[k].toNat % 16)]) := by
        rw [Hid, take_snoc s k hlt, Tr.digits_append]; rfl
      have HLN : Hid ((Tr.digits (s.data.toList.take k)).length + 2 ≤ 1000000000) := by
        rw [Hid, Tr.digits_len, List.length_take]; omega
      have HZ := hid (bits_digit s[k])
      have HH1 := hid HH.out.1
      have HH2 := hid HH.out.2
      generalize Tr.digits (s.data.toList.take k) = dk at *
      go_wp2_with fail
      go_region_held3 (fun _ => True) (trivial) ((refine step_push_bytes rfl (.tmp 14) (.tmp 23) rfl [UInt8.ofNat (s[k].toNat / 16), UInt8.ofNat (s[k].toNat % 16)] _ rfl rfl rfl HH1.out (HH2.out.drew) (Nat.le_refl _) HZ.out HLN.out ?_; intro v' w' ho' hb'; have HO' := hid ho'; have HB' := hid hb'; clear ho' hb'))
      all_goals
        go_wp2_with fail
        exact ⟨⟨k + 1, by go_num, by omega, by rw [HD.out]; exact HO'.out, HB'.out⟩, by simp [intOf]; omega⟩
    · have i2 : ¬ (k : Int) < (s.size : Int) := by omega
      have hke : k = s.size := by omega
      have HK : Hid (Tr.digits (s.data.toList.take k) = Tr.digits s.data.toList) := by rw [Hid, List.take_of_length_le (by rw [ba_len]; omega)]
      rw [HK.out] at hv
      subst hv
      have hcv := run_bytes_string (brd_of_bown (by have h := HH.out.1; rw [HK.out] at h; exact h))
      go_wp2_with fail
      go_ret
      exact ⟨rfl, HH.out.2⟩

theorem pack_cells (a b : UInt8) (ha : a.toNat < 16) (hb : b.toNat < 16) : #[Value.int .u8 (bits .or .u8 (IntKind.u8.wrap ((a.toNat : Int) * 16)) (b.toNat : Int))].toList = Lib.byteCells [UInt8.ofNat (16 * a.toNat + b.toNat)] := by
  simp only [Lib.byteCells, List.map_cons, List.map_nil]
  have e1 : (UInt8.ofNat (16 * a.toNat + b.toNat)).toNat = 16 * a.toNat + b.toNat := by simp; omega
  have e2 := u8_or16 ⟨a.toNat, ha⟩ ⟨b.toNat, hb⟩
  dsimp only at e2
  rw [e1, e2]

theorem ba_mem (s : ByteArray) (k : Nat) (h : k < s.size) : s[k] ∈ s.data.toList := by
  show s.data[k] ∈ s.data.toList
  rw [Array.mem_toList_iff]
  exact Array.getElem_mem h

theorem take_two (s : ByteArray) (k : Nat) (h : k + 1 < s.size) : s.data.toList.take (k + 2) = s.data.toList.take k ++ [s[k], s[k + 1]] := by
  rw [show k + 2 = (k + 1) + 1 from rfl, take_snoc s (k + 1) h, take_snoc s k (by omega), List.append_assoc]; rfl

set_option maxHeartbeats 1600000 in
theorem oneDigit_any (n : Nat) (w : World) (hn : n < 256) : Calls Tryz.prog 95 #[.int .i64 n] w fun e w' => e = .returned (.string ⟨#[UInt8.ofNat n]⟩) ∧ Below w.heap.size w w' := by
  have hcv := run_bytes_string (brd_of_bown (bown_one w w.heap.size (UInt8.ofNat n) (Nat.le_refl _)))
  rw [show (UInt8.ofNat n).toNat = n by simp; omega] at hcv
  go_enter Tryz.func95, Tryz.ntmps95
  go_wp2_with fail
  go_ret
  exact ⟨rfl, (Below.refl _ _).alloc (Nat.le_refl _) _⟩

set_option maxHeartbeats 1600000 in
theorem packed_any (s : ByteArray) (w : World) (hs : s.size ≤ 100000000) (he : s.size % 2 = 0) (hd : ∀ c ∈ s.data.toList, c.toNat < 16) : Calls Tryz.prog 105 #[.string s] w fun e w' => e = .returned (.string ⟨(Tr.pack s.data.toList).toArray⟩) ∧ Below w.heap.size w w' := by
  obtain ⟨i0, hi, hz0, hz1, hz2⟩ := info_parts infoByte
  have HI := hid hi
  have HZ2 : Hid (i0.bytes * (s.size / 2) ≤ 281474976710656) := by rw [Hid, hz2]; omega
  have HML : Hid (s.size / 2 ≤ maxLen) := by rw [Hid]; unfold maxLen; omega
  have HZ0 := hid hz0
  have HZ1 := hid hz1
  clear hi hz0 hz1 hz2
  have HD0 : Hid ((s.size : Int) / 2 = ((s.size / 2 : Nat) : Int)) := by rw [Hid]; omega
  have HD := hid hd
  have HE := hid he
  clear hd he
  go_enter Tryz.func105, Tryz.ntmps105
  go_wp2_with (at_make; go_loud (refine wpList_make_own _ rfl _ (.tmp 7) 46 rfl w.heap.size 5 i0 (.int .u8 0) 1 Tryz.underlying46 HI.out HZ0.out HZ1.out .i64 .i64 _ (s.size / 2) rfl rfl HD0.out HZ2.out HML.out (Nat.le_refl _) ?_); intro w0 hown0 hgrow0; have HO0 := hid hown0; have HG0 := hid hgrow0; clear hown0 hgrow0)
  go_loopw [3, 4] (fun l i wr => ∃ k : Nat, i = .int .i64 ((2 * k : Nat) : Int) ∧ 2 * k ≤ s.size ∧ Hid (Bown wr w.heap.size l (Tr.pack (s.data.toList.take (2 * k))) ∧ Below w.heap.size w wr)) (fun _ i _ => s.size - (intOf i).toNat)
  case atStart => exact ⟨0, rfl, Nat.zero_le _, HO0.out, (Below.refl _ _).grown HG0.out (Nat.le_refl _) (fun g hg => by cases hg)⟩
  case round =>
    obtain ⟨k, rfl, hk, HH⟩ := hrel
    obtain ⟨ab, cb, hv⟩ := bown_shape HH.out.1
    generalize hm : 2 * k = m at *
    by_cases hlt : m < s.size
    · subst hv
      have hlt2 : m + 1 < s.size := by have := HE.out; omega
      have i1 : (0 : Int) ≤ (m : Int) := by omega
      have i2 : (m : Int) < (s.size : Int) := by omega
      have i3 : (0 : Int) ≤ (m : Int) + 1 := by omega
      have hw1 : IntKind.i64.wrap ((m : Int) + 1) = (m : Int) + 1 := by rw [IntKind.wrap_i64]; omega
      have i4 : (m : Int) + 1 < (s.size : Int) := by omega
      have HDD : Hid (Tr.pack (s.data.toList.take (m + 2)) = Tr.pack (s.data.toList.take m) ++ [UInt8.ofNat (16 * s[m].toNat + s[m + 1].toNat)]) := by
        rw [Hid, take_two s m hlt2, Tr.pack_snoc _ _ _ k (by rw [List.length_take, ba_len]; omega)]
      have HLN : Hid ((Tr.pack (s.data.toList.take m)).length + 1 ≤ 1000000000) := by
        rw [Hid]
        have := Tr.pack_le (s.data.toList.take m)
        rw [List.length_take] at this
        omega
      have HZ := hid (pack_cells s[m] s[m + 1] (HD.out _ (ba_mem s m hlt)) (HD.out _ (ba_mem s (m + 1) hlt2)))
      have HH1 := hid HH.out.1
      have HH2 := hid HH.out.2
      have HM := hid hm
      generalize Tr.pack (s.data.toList.take m) = dk at *
      clear hm
      go_wp2_with fail
      go_region_held3 (fun _ => True) (trivial) ((go_loud (refine step_push_bytes rfl (.tmp 15) (.tmp 25) rfl [UInt8.ofNat (16 * s[m].toNat + s[m + 1].toNat)] _ rfl rfl rfl HH1.out (HH2.out.drew) (Nat.le_refl _) HZ.out HLN.out ?_); intro v' w' ho' hb'; have HO' := hid ho'; have HB' := hid hb'; clear ho' hb'))
      all_goals
        go_wp2_with fail
        exact ⟨⟨k + 1, by have := HM.out; go_num, by have := HM.out; omega, by rw [show 2 * (k + 1) = m + 2 by have := HM.out; omega, HDD.out]; exact HO'.out, HB'.out⟩, by simp [intOf]; omega⟩
    · have i2 : ¬ (m : Int) < (s.size : Int) := by omega
      have hke : m = s.size := by omega
      have HK : Hid (Tr.pack (s.data.toList.take m) = Tr.pack s.data.toList) := by rw [Hid, List.take_of_length_le (by rw [ba_len]; omega)]
      rw [HK.out] at hv
      subst hv
      have hcv := run_bytes_string (brd_of_bown (by have h := HH.out.1; rw [HK.out] at h; exact h))
      go_wp2_with fail
      go_ret
      exact ⟨rfl, HH.out.2⟩
end Go.Proofs.YtbmohenjphmlgabGreat

/- The walks of pathOf and sumOf (of the program). -/
namespace Go.Proofs.YtbmohenjphmlgabGreat
open Go.RowKit
set_option maxRecDepth 100000

theorem append_toList (a b : ByteArray) : (a ++ b).data.toList = a.data.toList ++ b.data.toList := by simp

theorem path_odd (l : List UInt8) (f : Nat) (leaf : Bool) (hl : l.length % 2 = 1) (hd : ∀ c ∈ l, c.toNat < 16) (hf : f = (if leaf then 2 else 0)) : Tr.pack ([UInt8.ofNat (f + 1)] ++ l) = Tr.path l leaf := by
  unfold Tr.path
  rw [if_pos hl]
  cases l with
  | nil => simp at hl
  | cons c r =>
    have hc := hd c (by simp)
    rw [List.cons_append, List.nil_append, Tr.pack_two]
    congr 1
    have e1 : (UInt8.ofNat (f + 1)).toNat = f + 1 := by simp; cases leaf <;> simp at hf <;> omega
    rw [e1]
    subst hf
    cases leaf <;> simp

theorem path_even (l : List UInt8) (f : Nat) (leaf : Bool) (hl : ¬ l.length % 2 = 1) (hf : f = (if leaf then 2 else 0)) : Tr.pack (([UInt8.ofNat f] ++ [UInt8.ofNat 0]) ++ l) = Tr.path l leaf := by
  unfold Tr.path
  rw [if_neg hl, List.append_assoc, List.cons_append, List.nil_append, List.cons_append, List.nil_append, Tr.pack_two]
  congr 1
  subst hf
  cases leaf <;> simp

set_option maxHeartbeats 1600000 in
theorem pathOf_any (s : ByteArray) (leaf : Bool) (w : World) (hs : s.size ≤ 10000000) (hd : ∀ c ∈ s.data.toList, c.toNat < 16) : Calls Tryz.prog 90 #[.string s, .bool leaf] w fun e w' => e = .returned (.string ⟨(Tr.path s.data.toList leaf).toArray⟩) ∧ Below w.heap.size w w' := by
  have hlen : s.data.toList.length = s.size := ba_len s
  have HP : Hid (∀ (t : ByteArray) (r : List UInt8) (w : World), t.data.toList = r ++ s.data.toList → r.length ≤ 2 → (r.length + s.size) % 2 = 0 → (∀ c ∈ r, c.toNat < 16) → Calls Tryz.prog 105 #[.string t] w fun e w' => e = .returned (.string ⟨(Tr.pack (r ++ s.data.toList)).toArray⟩) ∧ Below w.heap.size w w') := by
    intro t r w ht hr he hrd
    have hsz : t.size = r.length + s.size := by rw [← ba_len t, ht, List.length_append, hlen]
    rw [← ht]
    exact packed_any t w (by omega) (by omega) (by rw [ht]; intro c hc; exact (List.mem_append.1 hc).elim (hrd c) (hd c))
  have H1 := hid (fun n w hn => oneDigit_any n w hn)
  have HO : Hid (∀ f : Nat, f = (if leaf then 2 else 0) → s.size % 2 = 1 → Tr.pack ([UInt8.ofNat (f + 1)] ++ s.data.toList) = Tr.path s.data.toList leaf) := fun f hf h => path_odd _ f leaf (by rw [hlen]; exact h) hd hf
  have HE : Hid (∀ f : Nat, f = (if leaf then 2 else 0) → ¬ s.size % 2 = 1 → Tr.pack (([UInt8.ofNat f] ++ [UInt8.ofNat 0]) ++ s.data.toList) = Tr.path s.data.toList leaf) := fun f hf h => path_even _ f leaf (by rw [hlen]; exact h) hf
  clear hd hlen
  go_enter Tryz.func90, Tryz.ntmps90
  rcases Nat.mod_two_eq_zero_or_one s.size with hm | hm
  · have hm1 : (s.size : Int) % 2 = 0 := by omega
    have hm2 : ¬ s.size % 2 = 1 := by omega
    cases leaf
    · go_wp2_with fail
      refine (H1.out 0 _ (by decide)).mono ?_
      rintro e w1 ⟨rfl, b1⟩
      go_wp2_with fail
      refine (H1.out 0 _ (by decide)).mono ?_
      rintro e w2 ⟨rfl, b2⟩
      go_wp2_with fail
      refine (HP.out _ ([UInt8.ofNat 0] ++ [UInt8.ofNat 0]) _ (by simp) (by simp) (by simp; omega) (by simp)).mono ?_
      rintro e w3 ⟨rfl, b3⟩
      go_wp2_with fail
      go_ret
      exact ⟨congrArg (fun l : List UInt8 => Ending.returned (.string ⟨l.toArray⟩)) (HE.out 0 rfl hm2), (b1.trans (b2.mono b1.size)).trans (b3.mono (Nat.le_trans b1.size b2.size))⟩
    · go_wp2_with fail
      refine (H1.out 2 _ (by decide)).mono ?_
      rintro e w1 ⟨rfl, b1⟩
      go_wp2_with fail
      refine (H1.out 0 _ (by decide)).mono ?_
      rintro e w2 ⟨rfl, b2⟩
      go_wp2_with fail
      refine (HP.out _ ([UInt8.ofNat 2] ++ [UInt8.ofNat 0]) _ (by simp) (by simp) (by simp; omega) (by simp)).mono ?_
      rintro e w3 ⟨rfl, b3⟩
      go_wp2_with fail
      go_ret
      exact ⟨congrArg (fun l : List UInt8 => Ending.returned (.string ⟨l.toArray⟩)) (HE.out 2 rfl hm2), (b1.trans (b2.mono b1.size)).trans (b3.mono (Nat.le_trans b1.size b2.size))⟩
  · have hm1 : (s.size : Int) % 2 = 1 := by omega
    cases leaf
    · go_wp2_with fail
      refine (H1.out 1 _ (by decide)).mono ?_
      rintro e w1 ⟨rfl, b1⟩
      go_wp2_with fail
      refine (HP.out _ ([UInt8.ofNat 1]) _ (by simp) (by simp) (by simp; omega) (by simp)).mono ?_
      rintro e w3 ⟨rfl, b3⟩
      go_wp2_with fail
      go_ret
      exact ⟨congrArg (fun l : List UInt8 => Ending.returned (.string ⟨l.toArray⟩)) (HO.out 0 rfl hm), b1.trans (b3.mono b1.size)⟩
    · go_wp2_with fail
      refine (H1.out 3 _ (by decide)).mono ?_
      rintro e w1 ⟨rfl, b1⟩
      go_wp2_with fail
      refine (HP.out _ ([UInt8.ofNat 3]) _ (by simp) (by simp) (by simp; omega) (by simp)).mono ?_
      rintro e w3 ⟨rfl, b3⟩
      go_wp2_with fail
      go_ret
      exact ⟨congrArg (fun l : List UInt8 => Ending.returned (.string ⟨l.toArray⟩)) (HO.out 2 rfl hm), b1.trans (b3.mono b1.size)⟩

/-- The eight places of the sum while they are being written. -/
def sumCells (n k : Nat) : Array Value := ((List.range 8).map fun i => if i < k then Value.int .u8 ((Tr.sumAt n i).toNat : Nat) else Value.int .u8 0).toArray

theorem sumCells_at (n k i : Nat) : (sumCells n k)[i]? = if i < 8 then some (if i < k then Value.int .u8 ((Tr.sumAt n i).toNat : Nat) else Value.int .u8 0) else none := by
  unfold sumCells
  by_cases h : i < 8
  · simp [h]
  · simp [h]

theorem sumCells_size (n k : Nat) : (sumCells n k).size = 8 := by simp [sumCells]

theorem sumCells_set (n k : Nat) (hk : k < 8) : (sumCells n k).setIfInBounds k (.int .u8 ((Tr.sumAt n k).toNat : Nat)) = sumCells n (k + 1) := by
  apply Array.ext_getElem?
  intro i
  rw [Array.getElem?_setIfInBounds, sumCells_at, sumCells_at, sumCells_size]
  by_cases h : k = i
  · subst h; simp [hk]
  · rw [if_neg h]
    by_cases h8 : i < 8
    · rw [if_pos h8, if_pos h8]
      by_cases hik : i < k
      · rw [if_pos hik, if_pos (by omega)]
      · rw [if_neg hik, if_neg (by omega)]
    · rw [if_neg h8, if_neg h8]

theorem sum_byte2 (n m : Nat) : (n : Int) / 2 ^ (8 * (7 - m)) % 256 = (((Tr.sumAt n m).toNat : Nat) : Int) := by
  have e2 : (n : Int) / 2 ^ (8 * (7 - m)) = ((n / 256 ^ (7 - m) : Nat) : Int) := by
    have : (256 : Nat) ^ (7 - m) = 2 ^ (8 * (7 - m)) := by rw [Nat.pow_mul]
    rw [this]
    simp
  rw [e2]
  unfold Tr.sumAt
  simp

set_option maxHeartbeats 1600000 in
theorem sumOf_any (s : ByteArray) (w : World) (hs : s.size ≤ 1000000000) : Calls Tryz.prog 107 #[.string s] w fun e w' => e = .returned (.string ⟨(Tr.sum s.data.toList).toArray⟩) ∧ Below w.heap.size w w' := by
  go_enter Tryz.func107, Tryz.ntmps107
  go_wp2_with fail
  go_loopw [3, 9] (fun h i wr => ∃ k : Nat, h = .int .u64 (Tr.fnv (s.data.toList.take k)) ∧ i = .int .i64 k ∧ k ≤ s.size ∧ wr = w) (fun _ i _ => s.size - (intOf i).toNat)
  case atStart => exact ⟨0, by rw [List.take_zero, Tr.fnv_nil]; simp, rfl, Nat.zero_le _, rfl⟩
  case round =>
    obtain ⟨k, rfl, rfl, hk, rfl⟩ := hrel
    by_cases hlt : k < s.size
    · have i1 : (0 : Int) ≤ (k : Int) := by omega
      have i2 : (k : Int) < (s.size : Int) := by omega
      have HF := hid (step_val (Tr.fnv (s.data.toList.take k)) s[k] (Tr.fnv_lt _))
      have HS := hid (fnv_snoc s k hlt)
      go_wp2_with fail
      exact ⟨⟨k + 1, by rw [HF.out, HS.out], by go_num, by omega, trivial⟩, by simp [intOf]; omega⟩
    · have i2 : ¬ (k : Int) < (s.size : Int) := by omega
      have HK : Hid (Tr.fnv (s.data.toList.take k) = Tr.fnv s.data.toList) := by rw [Hid, List.take_of_length_le (by rw [ba_len]; omega)]
      rw [HK.out]
      have HLT := hid (Tr.fnv_lt s.data.toList)
      have HSE := hid (Tr.sum_eq s.data.toList)
      generalize Tr.fnv s.data.toList = n at *
      clear HK hlt hk
      go_wp2_with fail
      go_loopw [20] (fun i wx => ∃ m : Nat, i = .int .i64 (m : Int) ∧ m ≤ 8 ∧ wx = wr.alloc (.cells (sumCells n m) 170)) (fun i _ => (8 - intOf i).toNat)
      case atStart => exact ⟨0, rfl, by omega, rfl⟩
      case round =>
        obtain ⟨m, rfl, hm, rfl⟩ := hrel
        by_cases hlt2 : m < 8
        · have j1 : (m : Int) < 8 := by omega
          have j2 : (0 : Int) ≤ (m : Int) := by omega
          have HC := hid (sumCells_set n m hlt2)
          have hfr := frozen_of_row _ _ m _ _ (heap_alloc_new wr (.cells (sumCells n m) 170))
          have hce : (wr.alloc (.cells (sumCells n m) 170)).cell? ⟨wr.heap.size, m, none⟩ = some (.int .u8 0) := by
            rw [cell_of_row _ _ m _ _ _ (heap_alloc_new wr _), sumCells_at, if_pos hlt2, if_neg (by omega)]
          go_wp2_with fail
          exact ⟨⟨m + 1, by go_num, by omega, by rw [sum_byte2 n m, HC.out]⟩, by simp [intOf]; omega⟩
        · have j1 : ¬ (m : Int) < 8 := by omega
          obtain rfl : m = 8 := by omega
          have hbr : Brd (wr.alloc (.cells (sumCells n 8) 170)).heap.size (wr.alloc (.cells (sumCells n 8) 170)) (.slice (some ⟨wr.heap.size, 0, none⟩) 8 8) ((List.range 8).map (Tr.sumAt n)) := by
            refine .inr ⟨wr.heap.size, 0, 8, by simp, by simp, fun j hj => ?_⟩
            have hj8 : j < 8 := by simpa using hj
            rw [cell_of_row _ _ (0 + j) _ _ _ (heap_alloc_new wr _), sumCells_at, if_pos (by omega), if_pos (by omega)]
            simp
          have hcv := run_bytes_string hbr
          clear hbr
          go_wp2_with fail
          go_ret
          exact ⟨by rw [HSE.out]; rfl, (Below.refl _ _).alloc (Nat.le_refl _) _⟩
end Go.Proofs.YtbmohenjphmlgabGreat

/- The walks of strings.HasPrefix and strings.CutPrefix. -/
namespace Go.Proofs.YtbmohenjphmlgabGreat
open Go.RowKit
set_option maxRecDepth 100000

/-- Does s begin with p? -/
def pre (p s : ByteArray) : Bool := p.data.toList.isPrefixOf s.data.toList

theorem pre_long {p s : ByteArray} (h : ¬ p.size ≤ s.size) : pre p s = false := by
  unfold pre
  rw [Bool.eq_false_iff, Ne, List.isPrefixOf_iff_prefix]
  intro hp
  have := hp.length_le
  rw [ba_len, ba_len] at this
  omega

theorem pre_eq (p s : ByteArray) : pre p s = ((s.extract 0 p.size).toList == p.toList) := by
  unfold pre
  rw [Bool.eq_iff_iff, List.isPrefixOf_iff_prefix, beq_iff_eq, ByteArray.toList_eq, ByteArray.toList_eq]
  have he : (s.extract 0 p.size).data.toList = s.data.toList.take p.size := by rw [Lib.extract_data]; simp
  rw [he, List.prefix_iff_eq_take, ba_len]
  exact ⟨fun h => h.symm, fun h => h.symm⟩

set_option maxHeartbeats 1600000 in
theorem hasPrefix2_any (s p : ByteArray) (w : World) : Calls Tryz.prog 106 #[.string s, .string p] w fun e w' => e = .returned (.bool (pre p s)) ∧ w' = w := by
  by_cases h : p.size ≤ s.size
  · have h1 : (p.size : Int) ≤ (s.size : Int) := by omega
    have HP := hid (pre_eq p s)
    go_enter Tryz.func106, Tryz.ntmps106
    go_wp2_with fail
    go_ret
    exact ⟨by rw [HP.out]; rfl, rfl⟩
  · have h1 : ¬ (p.size : Int) ≤ (s.size : Int) := by omega
    have HP := hid (pre_long h)
    go_enter Tryz.func106, Tryz.ntmps106
    go_wp2_with fail
    go_ret
    exact ⟨by rw [HP.out]; rfl, rfl⟩

set_option maxHeartbeats 1600000 in
theorem hasPrefix_any (s p : ByteArray) (w : World) : Calls Tryz.prog 91 #[.string s, .string p] w fun e w' => e = .returned (.bool (pre p s)) ∧ w' = w := by
  go_enter Tryz.func91, Tryz.ntmps91
  go_wp2_with fail
  refine (hasPrefix2_any s p _).mono ?_
  rintro e w1 ⟨rfl, rfl⟩
  go_wp2_with fail
  go_ret
  exact ⟨rfl, rfl⟩

/-- What is left of s behind p. -/
def cutP (p s : ByteArray) : ByteArray := if pre p s then s.extract p.size s.size else s

theorem pre_size {p s : ByteArray} (h : pre p s = true) : p.size ≤ s.size := by
  unfold pre at h
  rw [List.isPrefixOf_iff_prefix] at h
  have := h.length_le
  rw [ba_len, ba_len] at this
  exact this

theorem cutP_list {p s : ByteArray} (h : pre p s = true) : (cutP p s).data.toList = s.data.toList.drop p.size := by
  unfold cutP
  rw [if_pos h, Lib.extract_to_end]

set_option maxHeartbeats 1600000 in
theorem cutPrefix2_any (s p : ByteArray) (w : World) : Calls Tryz.prog 110 #[.string s, .string p] w fun e w' => e = .returned (.tuple #[.string (cutP p s), .bool (pre p s)]) ∧ w' = w := by
  have HC := hid (fun w => hasPrefix2_any s p w)
  go_enter Tryz.func110, Tryz.ntmps110
  go_wp2_with fail
  refine (HC.out _).mono ?_
  rintro e w1 ⟨rfl, rfl⟩
  have HCC : Hid (cutP p s = if pre p s then s.extract p.size s.size else s) := rfl
  cases hp : pre p s with
  | true =>
    have h1 := pre_size hp
    have h2 : (p.size : Int) ≤ (s.size : Int) := by omega
    have h3 : (0 : Int) ≤ (p.size : Int) := by omega
    rw [hp, if_pos rfl] at HCC
    have HPP := hid hp
    clear hp
    go_wp2_with fail
    exact bodyPost_ret (v := .tuple #[.string (s.extract p.size s.size), .bool true]) (by simp [results, Tryz.results110, go_sem]) rfl ⟨by rw [HCC.out, HPP.out], rfl⟩
  | false =>
    rw [hp, if_neg (by decide)] at HCC
    have HPP := hid hp
    clear hp
    go_wp2_with fail
    exact bodyPost_ret (v := .tuple #[.string s, .bool false]) (by simp [results, Tryz.results110, go_sem]) rfl ⟨by rw [HCC.out, HPP.out], rfl⟩

set_option maxHeartbeats 1600000 in
theorem cutPrefix_any (s p : ByteArray) (w : World) : Calls Tryz.prog 97 #[.string s, .string p] w fun e w' => e = .returned (.tuple #[.string (cutP p s), .bool (pre p s)]) ∧ w' = w := by
  go_enter Tryz.func97, Tryz.ntmps97
  go_wp2_with fail
  refine (cutPrefix2_any s p _).mono ?_
  rintro e w1 ⟨rfl, rfl⟩
  go_wp2_with fail
  exact bodyPost_ret (v := .tuple #[.string (cutP p s), .bool (pre p s)]) (by simp [results, Tryz.results97, go_sem]) rfl ⟨rfl, rfl⟩
end Go.Proofs.YtbmohenjphmlgabGreat
