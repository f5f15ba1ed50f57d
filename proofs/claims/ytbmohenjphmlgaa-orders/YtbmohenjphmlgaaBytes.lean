/- Rows of bytes: those of the call's own, which grow by append; those that are read alone. -/
import Derived.Test.YtbmohenjphmlgaaFirst
import Derived.Laws.BytesArg
import Derived.Lib.ConvBytes
import Derived.Lib.UnsafeStr
namespace Go.Proofs.Ytbmohenjphmlgaa
open Go.RowKit
set_option maxRecDepth 100000

theorem infoByte : (Try.prog.info? 5).map (fun i => (i.zero, i.size, i.bytes)) = some (some (.int .u8 0), 1, 1) := by kernel_rfl

/-- A row of bytes of the call's own. -/
def Bown (w : World) (base : Nat) (v : Value) (l : List UInt8) : Prop := w.ownsRow base 5 1 v l.length (Lib.byteCells l)

/-- Bytes that can be read. -/
def Brd (B : Nat) (w : World) (v : Value) (l : List UInt8) : Prop :=
  (v = .slice none 0 0 ∧ l = []) ∨ ∃ b off cap, v = .slice (some ⟨b, off, none⟩) l.length cap ∧ b < B ∧ ∀ j (h : j < l.length), w.cell? ⟨b, off + j, none⟩ = some (.int .u8 (l[j].toNat : Nat))

theorem bown_nil (w : World) (base : Nat) : Bown w base (.slice none 0 0) [] := World.ownsRow_nil _ _ _ _

theorem bown_one (w : World) (base : Nat) (c : UInt8) (hb : base ≤ w.heap.size) : Bown (w.alloc (.cells #[.int .u8 (c.toNat : Nat)] 5)) base (.slice (some ⟨w.heap.size, 0, none⟩) 1 1) [c] := by
  have := World.ownsRow_lit (base := base) (e := 5) (size := 1) w #[.int .u8 (c.toNat : Nat)] 1 hb (by unfold maxLen; omega) rfl
  simpa [Bown, Lib.byteCells] using this

theorem bown_base {w : World} {b b' : Nat} {v : Value} {l : List UInt8} (h : Bown w b v l) (hb : b' ≤ b) : Bown w b' v l := owns_base h hb

theorem bown_frame {w w' : World} {b : Nat} {v : Value} {l : List UInt8} (h : Bown w b v l) (hg : ∀ g, v.ownBlock = some g → w'.heap[g]? = w.heap[g]?) : Bown w' b v l := owns_frame h hg

theorem bown_lt {w : World} {b : Nat} {v : Value} {l : List UInt8} (h : Bown w b v l) : ∀ g, v.ownBlock = some g → b ≤ g ∧ g < w.heap.size := World.ownsRow.lt h

theorem brd_of_bown {w : World} {b : Nat} {v : Value} {l : List UInt8} (h : Bown w b v l) : Brd w.heap.size w v l := by
  rcases h.2 with ⟨rfl, h0⟩ | ⟨g, cap, cur, rfl, hb, hg, _, _, _, _⟩
  · exact .inl ⟨rfl, List.eq_nil_of_length_eq_zero h0⟩
  · refine .inr ⟨g, 0, cap, rfl, (Array.getElem?_eq_some_iff.1 hg).1, ?_⟩
    intro j hj
    rw [Nat.zero_add, World.ownsRow.cellAt h j (by omega)]
    simp [Lib.byteCells, hj]

theorem brd_frame {B : Nat} {w w' : World} {v : Value} {l : List UInt8} (h : Brd B w v l) (hb : Below B w w') : Brd B w' v l := by
  rcases h with h | ⟨b, off, cap, hv, hlt, hc⟩
  · exact .inl h
  · exact .inr ⟨b, off, cap, hv, hlt, fun j hj => by rw [hb.cell hlt]; exact hc j hj⟩

theorem brd_wider {B B' : Nat} {w : World} {v : Value} {l : List UInt8} (h : Brd B w v l) (hB : B ≤ B') : Brd B' w v l := by
  rcases h with h | ⟨b, off, cap, hv, hlt, hc⟩
  · exact .inl h
  · exact .inr ⟨b, off, cap, hv, by omega, hc⟩

theorem brd_in {w w' : World} {v : Value} {l : List UInt8} (h : Brd w.heap.size w v l) (hb : Below w.heap.size w w') : Brd w'.heap.size w' v l := brd_wider (brd_frame h hb) hb.size

theorem brd_shape {B : Nat} {w : World} {v : Value} {l : List UInt8} (h : Brd B w v l) : ∃ a cap, v = .slice a l.length cap := by
  rcases h with ⟨rfl, rfl⟩ | ⟨b, off, cap, hv, _⟩
  · exact ⟨none, 0, rfl⟩
  · exact ⟨_, _, hv⟩

theorem bown_shape {w : World} {b : Nat} {v : Value} {l : List UInt8} (h : Bown w b v l) : ∃ a cap, v = .slice a l.length cap := brd_shape (brd_of_bown h)

theorem cell_fact {w : World} {b off : Nat} {l : List UInt8} (hc : ∀ j (h : j < l.length), w.cell? ⟨b, off + j, none⟩ = some (.int .u8 (l[j].toNat : Nat))) :
    ∀ j u, (Lib.byteCells l)[j]? = some u → w.cell? ((⟨b, off, none⟩ : Addr).add j) = some u := by
  intro j u hu
  have hadd : (⟨b, off, none⟩ : Addr).add j = ⟨b, off + j, none⟩ := by unfold Addr.add; split <;> simp_all
  have hj : j < l.length := by
    have := (List.getElem?_eq_some_iff.1 hu).1
    simpa [Lib.byteCells] using this
  rw [hadd, hc j hj]
  simp [Lib.byteCells, hj] at hu
  rw [hu]

theorem byteCells_one (l : List UInt8) : ∀ u ∈ Lib.byteCells l, u.oneCell' = true := by
  intro u hu
  simp only [Lib.byteCells, List.mem_map] at hu
  obtain ⟨c, _, rfl⟩ := hu
  rfl

/-- append of bytes that can be read, to a row of the call's own: for a walk. -/
theorem wpList_append_bytes {ops : Array Oper} {rest : List Oper} {o : Oper} {act : Act} {Q : Exit → Act → World → Prop} (w : World) (hgd : o.guard = none) (s x : Operand)
    (hop : o.op = .call { callee := .builtin .append, args := #[s, x], argTypes := #[76, 76] })
    (base B : Nat) (v1 v2 : Value) (l1 l2 : List UInt8) (hs : act.eval s = v1) (hx : act.eval x = v2) (h1 : Bown w base v1 l1) (h2 : Brd B w v2 l2) (hlen : l1.length + l2.length ≤ 1000000000) (hbase : base ≤ w.heap.size)
    (h : ∀ v' w', Bown w' base v' (l1 ++ l2) → w.grownBy w' v1.ownBlock → Newer w v1 v' → wpList Try.prog ops Q rest (act.put o.dst v') w') :
    wpList Try.prog ops Q (o :: rest) act w := by
  obtain ⟨i0, hi, hz0, hz1, hz2⟩ := info_parts infoByte
  rcases h2 with ⟨rfl, rfl⟩ | ⟨b, off, cap, rfl, _, hc⟩
  · refine wpList_plain hgd fun K hK => ?_
    have hr := run_append_owned_none (P := Try.prog) w base 76 o.type 5 i0 1 Try.underlying76 hi v1 _ _ h1
    unfold Oper.wp execOp
    simp only [hop, resolve, invoke, builtin, Sem.run_bind, Sem.run_pure, Result.andThen_ok, List.map_toArray, List.map_cons, List.map_nil, hs, hx, hr]
    exact hK _ _ (h v1 w (by rw [List.append_nil]; exact h1) (World.grownBy.refl _ _) (.inl rfl))
  · refine wpList_append_mine w hgd s x 76 hop base 5 i0 _ 1 1 Try.underlying76 hi hz0 hz1 hz2 rfl (by decide) v1 l1.length (Lib.byteCells l1) hs h1 ⟨b, off, none⟩ l2.length cap (Lib.byteCells l2) hx (by rw [Lib.byteCells_length]; omega) (cell_fact hc) (byteCells_one l2) (by unfold maxLen; omega) (by omega) hbase ?_
    intro v' w' ho hg hn
    refine h v' w' ?_ hg hn
    unfold Bown
    rw [List.length_append, Lib.byteCells_append]
    exact ho

/-- The string that bytes are. -/
theorem run_bytes_string {B : Nat} {w : World} {v : Value} {l : List UInt8} (h : Brd B w v l) : (convert 76 9 v).run Try.prog w = .ok (.string ⟨l.toArray⟩) w := by
  rcases h with ⟨rfl, rfl⟩ | ⟨b, off, cap, rfl, _, hc⟩
  · exact run_convert_bytes_nil w 76 5 Try.underlying76 Try.underlying5 0 0 9 Try.underlying9
  · have := run_convert_bytes_arg (P := Try.prog) w 76 5 Try.underlying76 Try.underlying5 b off l.length cap (l.map fun c => (c.toNat : Int)) (by simp) (fun i hi => by
      rw [hc i hi]; simp [hi]) 9 Try.underlying9
    rw [this]
    congr 2
    unfold strOfNums
    congr 1
    have hid : ((fun n : Int => UInt8.ofNat n.toNat) ∘ fun c : UInt8 => (c.toNat : Int)) = id := by funext c; simp
    simp [hid]

/-- The bytes of a string, as a new row. -/
theorem brd_bytesWorld (w : World) (s : ByteArray) (cap : Nat) : Brd (Lib.bytesWorld w 5 s).heap.size (Lib.bytesWorld w 5 s) (.slice (some ⟨w.heap.size, 0, none⟩) s.size cap) s.data.toList := by
  refine .inr ⟨w.heap.size, 0, cap, by rw [ba_len], by rw [Lib.bytesWorld_size]; omega, ?_⟩
  intro j hj
  rw [ba_len] at hj
  rw [Nat.zero_add, Lib.bytesWorld_cell w 5 s j hj, List.getD_eq_getElem?_getD, List.getElem?_eq_getElem (by rw [ba_len]; exact hj)]
  rfl

theorem below_bytesWorld (w : World) (s : ByteArray) : Below w.heap.size w (Lib.bytesWorld w 5 s) :=
  ⟨rfl, rfl, rfl, by rw [Lib.bytesWorld_size]; omega, fun k hk => Lib.bytesWorld_at_old w _ s k hk⟩

theorem run_string_bytes (w : World) (s : ByteArray) : (convert 9 76 (.string s)).run Try.prog w = .ok (.slice (some ⟨w.heap.size, 0, none⟩) s.size (grownCap w s.size 0 5)) (Lib.bytesWorld w 5 s) :=
  Lib.run_convert_string_bytes w 9 76 5 s Try.underlying9 Try.underlying76 Try.underlying5
end Go.Proofs.Ytbmohenjphmlgaa
