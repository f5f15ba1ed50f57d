/- Part 26 of a proof: what the last text needs. -/
import Derived.Test.YtbmohenjphmlgaaPart25
import Derived.Test.YtbmohenjphmlgaaPart21
import Derived.Test.YtbmohenjphmlgaaPart24
import Derived.Maps.OwnOps
import Derived.Maps.OwnSet
/- The walk of node (of the document's own answer), where the entries share no digit. -/
namespace Go.Proofs.Ytbmohenjphmlgaa
open Go.RowKit
set_option maxRecDepth 100000

/-- The references of a branch's first k digits. -/
def refs (f : Nat) (l : List Tr.Ent) (k : Nat) : List Itm := (List.range k).map fun d => Tr.ref (Tr.node f (Tr.behind [UInt8.ofNat d] l))

theorem refs_len (f : Nat) (l : List Tr.Ent) (k : Nat) : (refs f l k).length = k := by simp [refs]
theorem refs_succ (f : Nat) (l : List Tr.Ent) (k : Nat) : refs f l (k + 1) = refs f l k ++ [Tr.ref (Tr.node f (Tr.behind [UInt8.ofNat k] l))] := by
  unfold refs
  rw [List.range_succ, List.map_append]
  rfl

theorem valOfR_take (l : List Tr.Ent) (k : Nat) (h : k < l.length) : Tr.valOf (l.take (k + 1)) = if l[k].dig = [] then l[k].val else Tr.valOf (l.take k) := by
  unfold Tr.valOf
  rw [List.take_succ_eq_append_getElem h, List.foldl_append]
  rfl

/-- What the making of a branch reads. -/
def BrS (X R : Nat) (ax : Option Addr) (k cx : Nat) (w : World) : Prop := w.heap[X]? = some (.cells #[.bool true, .string ⟨#[]⟩, .slice ax k cx] 24 (0, 0)) ∧ w.heap[R]? = some (.cells #[.bool false, .string ⟨#[]⟩, .slice none 0 0] 24 (0, 0))

theorem brS_later {X R : Nat} {ax : Option Addr} {k cx : Nat} {w w' : World} (h : BrS X R ax k cx w) (hb : Below w.heap.size w w') : BrS X R ax k cx w' := ⟨kept_block hb h.1, kept_block hb h.2⟩

/-- An item that was just laid is appended to a list of the call's own: at a step of a region that draws. -/
theorem step_push_item {ops : Array Oper} {o : Oper} {act : Act} {K : Act → World → Prop} {Q' : Exit → Act → World → Prop} {E : Prop} (hgd : o.guard = none) (s x : Operand)
    (hop : o.op = .call { callee := .builtin .append, args := #[s, x], argTypes := #[22, 22] })
    {w0 w3 : World} {f lo hi lo1 hi1 g : Nat} {u a b c : Value} {done : List Itm} {y : Itm} (hs : act.eval s = u) (hx : act.eval x = .slice (some ⟨g, 0, none⟩) 1 1) (hg : g = w3.heap.size)
    (hown : OwL w0 f lo hi u done) (hb : Below hi w0 w3) (hy : Ow w3 f lo1 hi1 (.agg #[a, b, c]) y) (h1 : hi ≤ lo1) (h2 : lo ≤ lo1) (h3 : hi1 ≤ w3.heap.size) (h4 : hi ≤ w3.heap.size) (h5 : lo ≤ w3.heap.size)
    (hone : a.oneCell' = true ∧ b.oneCell' = true ∧ c.oneCell' = true) (hn : done.length ≤ 1000000)
    (h : ∀ v' w', OwL w' f lo w'.heap.size v' (done ++ [y]) → Below lo w3 w' → K (act.put o.dst v') w') :
    if Region.wanted o (yielded ops act.tmps) = true then Oper.wp Try.prog o act (w3.alloc (.cells #[a, b, c] 24)) K Q' else E := by
  subst hg
  have hw : Region.wanted o (yielded ops act.tmps) = true := by simp [Region.wanted, hgd]
  rw [if_pos hw]
  obtain ⟨i0, hi0, hz0, hz1, hz2⟩ := info_parts infoItem
  obtain ⟨xs, ho, hgl, L, H, hL, hLH⟩ := hown
  have hbW : Below w3.heap.size w3 (w3.alloc (.cells #[a, b, c] 24)) := (Below.refl _ _).alloc (Nat.le_refl _) _
  have hfr : ∀ k, k < hi → (w3.alloc (.cells #[a, b, c] 24)).heap[k]? = w0.heap[k]? := fun k hk => by rw [hbW.block k (by omega)]; exact hb.block k hk
  obtain ⟨v', w', hr, ho2, hgr, hnew⟩ := run_append_mine (P := Try.prog) _ lo 22 o.type 24 i0 _ 3 48 Try.underlying22 hi0 hz0 hz1 hz2 rfl (by decide) u done.length xs (owns_frame ho (fun g hg => hfr g (hgl g hg))) ⟨w3.heap.size, 0, none⟩ 1 1 [a, b, c] rfl (cells_three w3 a b c 24) (by
    intro u hu
    simp only [List.mem_cons, List.not_mem_nil, or_false] at hu
    rcases hu with rfl | rfl | rfl
    · exact hone.1
    · exact hone.2.1
    · exact hone.2.2) (by unfold maxLen; omega) (by omega) (by simp; omega)
  unfold Oper.wp execOp
  simp only [hop, resolve, invoke, builtin, Sem.run_bind, Sem.run_pure, Result.andThen_ok, List.map_toArray, List.map_cons, List.map_nil, hs, hx, hr]
  refine h v' w' ?_ ?_
  · exact ownL_push ho hgl L H hL hLH (hb.trans (hbW.mono h4)) (own_frame _ _ _ _ _ (fun k _ hk => hbW.block k (by omega)) hy) h1 h2 (by simp; omega) ho2 hgr hnew (by simp; omega)
  · exact (hbW.mono h5).grown hgr (by simp; omega) (fun k hk => (ho.lt k hk).1)

theorem owL_frame {w w' : World} {n lo hi : Nat} {sl : Value} {l : List Itm} (h : OwL w n lo hi sl l) (hk : ∀ k, lo ≤ k → k < hi → w'.heap[k]? = w.heap[k]?) : OwL w' n lo hi sl l := by
  obtain ⟨sl', hv, hl⟩ := own_frame (E := 24) (n + 1) lo hi _ ⟨true, [], l⟩ hk (ow_list h)
  have : sl' = sl := by
    simp only [Value.agg.injEq] at hv
    have := congrArg (fun z : Array Value => z[2]?) hv
    simpa using this.symm
  subst this
  exact hl

set_option maxHeartbeats 12800000 in
theorem nodeR_branch {f : Nat} (hR : RefAt f) (x0 x1 : Tr.Ent) (r : List Tr.Ent) (a : Option Addr) (cap : Nat) (w : World) (hr : ERd w.heap.size w a (x0 :: x1 :: r)) (hfit : Tr.Fits (f + 1) (x0 :: x1 :: r)) (hf : f ≤ 100) (hap : Tr.Apart (x0 :: x1 :: r)) (hl : (x0 :: x1 :: r).length ≤ 60) (hsh : Tr.shared (x0 :: x1 :: r) = []) :
    Calls Try.prog 55 #[.slice a (x0 :: x1 :: r).length cap] w (NodePost (f + 2) (Tr.node (f + 1) (x0 :: x1 :: r)) w) := by
  have hnode : Tr.node (f + 1) (x0 :: x1 :: r) = Tr.itL (refs f (x0 :: x1 :: r) 16 ++ [Tr.itB (Tr.valOf (x0 :: x1 :: r))]) := by
    rw [Tr.node]; unfold Tr.nodeOf; simp only [if_pos hsh]; rfl
  have hdl : ∀ e ∈ x0 :: x1 :: r, e.dig.length ≤ 1000000 := fun e he => by have := (hfit e he).1; omega
  have hcm := fun w' (b : Below w.heap.size w w') => commonR_any a cap x0 (x1 :: r) w' ((hr.later b).wider b.size) (by simp at hl ⊢; omega) hdl
  rw [hsh] at hcm
  have HCM := hid hcm
  have HBE := hid (fun (d : UInt8) w' (b : Below w.heap.size w w') => behindR_any a cap (x0 :: x1 :: r) d w' ((hr.later b).wider b.size) (by omega) hdl)
  have HRE := hid (fun (d : UInt8) a cap w h => hR (Tr.behind [d] (x0 :: x1 :: r)) a cap w h (hfit.behind (by simp)) hap.behind (Nat.le_trans (behind_len _ _) hl))
  have HBI := hid (fun s w => bytesItemR_any s w)
  have HR := hid hr
  rw [hnode]
  have hL2 : 2 ≤ (x0 :: x1 :: r).length := by simp
  have HX0 : Hid ((x0 :: x1 :: r).length = (x1 :: r).length + 1) := rfl
  rw [← HX0.out] at HCM
  obtain ⟨b, off, ad, cd0, rfl, hb, e0, hval0, hbr0⟩ := hr 0 (by simp)
  clear HX0 hnode hr hfit hap hsh hR hdl hcm e0 hval0 hbr0 ad cd0
  generalize x0 :: x1 :: r = L at *
  have i0 : ¬ (L.length : Int) = 0 := by omega
  have i1 : ¬ (L.length : Int) = 1 := by omega
  go_enter Try.func55, Try.ntmps55
  go_wp2_with fail
  have HB0 := hid (((Below.refl w.heap.size w).alloc (Nat.le_refl _) (.cells #[.bool false, .string ⟨#[]⟩, .slice none 0 0] 24)).alloc (by simp) (.cells #[.bool true, .string ⟨#[]⟩, .slice none 0 0] 24))
  refine (HCM.out _ HB0.out).mono ?_
  rintro e' w1 ⟨rfl, b1⟩
  have HB1 : Hid (Below w.heap.size w w1) := HB0.out.trans (b1.mono HB0.out.size)
  have hX1 := old_block2 b1
  have hR1 := kept_block b1 (block_alloc (heap_alloc_new w _) (O' := .cells #[.bool true, .string ⟨#[]⟩, .slice none 0 0] 24))
  have hsz1 : w.heap.size + 2 ≤ w1.heap.size := Nat.succ_le_of_lt (Array.getElem?_eq_some_iff.1 hX1).1
  clear b1 HB0 HCM
  go_wp2_with fail
  go_loopw [10] (fun i wr => ∃ (k : Nat) (ax : Option Addr) (cx : Nat), i = .int .i64 k ∧ k ≤ 16 ∧ Hid (BrS (w.heap.size + 1) w.heap.size ax k cx wr ∧ OwL wr (f + 1) (w.heap.size + 2) wr.heap.size (.slice ax k cx) (refs f L k) ∧ Below w.heap.size w wr ∧ w.heap.size + 2 ≤ wr.heap.size)) (fun i _ => 16 - (intOf i).toNat)
  case atStart => exact ⟨0, none, 0, rfl, by omega, ⟨hX1, hR1⟩, ownL_nil _ _ _ _ _, HB1.out, hsz1⟩
  case round =>
    obtain ⟨k, ax, cx, rfl, hk, HH⟩ := hrel
    by_cases hlt : k < 16
    · have i2 : (k : Int) < 16 := by omega
      have hk8 : (UInt8.ofNat k).toNat = k := by rw [UInt8.toNat_ofNat']; omega
      have HBK := hid (HBE.out (UInt8.ofNat k) wr HH.out.2.2.1)
      rw [hk8] at HBK
      have HRK := hid (fun a cap w h => HRE.out (UInt8.ofNat k) a cap w h)
      have HSU := hid (refs_succ f L k)
      generalize Tr.behind [UInt8.ofNat k] L = BL at *
      clear hk8
      go_wp2_with fail
      refine HBK.out.mono ?_
      rintro e' w2 ⟨a2, c2, rfl, r2, b2⟩
      have HR2 := hid r2
      have HB2 := hid b2
      clear r2 b2
      go_wp2_with fail
      refine (HRK.out _ _ _ HR2.out).mono ?_
      rintro e' w3 ⟨v3, rfl, o3, b3⟩
      obtain ⟨at_, ct, rfl⟩ := ow_shape o3
      generalize Tr.ref (Tr.node f BL) = t at *
      have HB23 : Hid (Below wr.heap.size wr w3) := HB2.out.trans (b3.mono HB2.out.size)
      have HSZ3 := hid HB23.out.size
      have hszr := HH.out.2.2.2
      have hX3 := kept_block HB23.out HH.out.1.1
      have hR3 := kept_block HB23.out HH.out.1.2
      have HO3 := hid o3
      have hw23 : w2.heap.size ≤ w3.heap.size := b3.size
      have hwr2 : wr.heap.size ≤ w2.heap.size := HB2.out.size
      have HBY : Hid (Below w3.heap.size w3 (w3.alloc (.cells #[.bool t.list, .string ⟨t.bytes.toArray⟩, .slice at_ t.items.length ct] 24))) := (Below.refl _ _).alloc (Nat.le_refl _) _
      clear o3 b3
      go_upto_region 23 with fail
      have HB24 : Hid (Below wr.heap.size wr (w3.alloc (.cells #[.bool t.list, .string ⟨t.bytes.toArray⟩, .slice at_ t.items.length ct] 24))) := HB23.out.trans (HBY.out.mono HB23.out.size)
      have hX4 := kept_block HBY.out hX3
      have hY4 := heap_alloc_new w3 (.cells #[.bool t.list, .string ⟨t.bytes.toArray⟩, .slice at_ t.items.length ct] 24)
      have hR4 := kept_block HBY.out hR3
      have HO4 := hid (own_frame (E := 24) _ _ _ _ _ (fun k _ hk => HBY.out.block k hk) HO3.out)
      have hsz4 : w3.heap.size ≤ (w3.alloc (.cells #[.bool t.list, .string ⟨t.bytes.toArray⟩, .slice at_ t.items.length ct] 24)).heap.size := HBY.out.size
      obtain ⟨w4, hw4⟩ : ∃ w4, w4 = w3.alloc (.cells #[.bool t.list, .string ⟨t.bytes.toArray⟩, .slice at_ t.items.length ct] 24) := ⟨_, rfl⟩
      rw [← hw4] at HB24 hX4 hY4 hR4 HO4 hsz4 ⊢
      clear hw4 HBY
      have x2 := (cell_of_row _ _ 2 _ _ _ hX4).trans rfl
      have y0 := (cell_of_row _ _ 0 _ _ _ hY4).trans rfl
      have y1 := (cell_of_row _ _ 1 _ _ _ hY4).trans rfl
      have y2 := (cell_of_row _ _ 2 _ _ _ hY4).trans rfl
      have HOW := hid HH.out.2.1
      have HDN : Hid ((refs f L k).length ≤ 1000000) := by rw [Hid, refs_len]; omega
      have hXw4 : w.heap.size + 1 < w4.heap.size := by omega
      have hne4 : ¬ w.heap.size + 1 = w4.heap.size := by omega
      have HQ1 : Hid (wr.heap.size ≤ w2.heap.size) := hwr2
      have HQ2 : Hid (w.heap.size + 2 ≤ w2.heap.size) := by rw [Hid]; omega
      have HQ3 : Hid (w3.heap.size ≤ w4.heap.size) := hsz4
      have HQ4 : Hid (wr.heap.size ≤ w4.heap.size) := by rw [Hid]; omega
      have HQ5 : Hid (w.heap.size + 2 ≤ w4.heap.size) := by rw [Hid]; omega
      have HLK : Hid ((refs f L k ++ [t]).length = k + 1) := by rw [Hid, List.length_append, refs_len]; rfl
      have HFR : Hid (∀ w', Below (w.heap.size + 2) w4 w' → w'.heap[w.heap.size + 1]? = some (.cells #[.bool true, .string ⟨#[]⟩, .slice ax k cx] 24 (0, 0))) := fun w' h => (h.block _ (by omega)).trans hX4
      go_wp2_with (at_builtin; go_loud (refine wpList_append_one rfl (.tmp 94) (.tmp 96) rfl rfl rfl rfl HOW.out HB24.out HO4.out HQ1.out HQ2.out HQ3.out HQ4.out HQ5.out ⟨rfl, rfl, rfl⟩ HDN.out ?_); intro v5 w5 ho5 hb5; obtain ⟨a5, c5, hv5⟩ := ownL_len ho5; rw [HLK.out] at hv5; subst hv5; have HO5 := hid ho5; have HB5 := hid hb5; have hX5 := HFR.out _ hb5; have q2 := (cell_of_row _ _ 2 _ _ _ hX5).trans rfl; have hf2 := frozen_of_row _ _ 2 _ _ hX5; clear ho5 hb5)
      have hRR : (w5.setCell ⟨w.heap.size + 1, 2, none⟩ (.slice a5 (k + 1) c5)).heap[w.heap.size]? = some (.cells #[.bool false, .string ⟨#[]⟩, .slice none 0 0] 24 (0, 0)) := (Below.heap_setCell w5 ⟨w.heap.size + 1, 2, none⟩ _ w.heap.size (by simp)).trans ((HB5.out.block _ (by omega)).trans hR4)
      have hsz5 : (w5.setCell ⟨w.heap.size + 1, 2, none⟩ (.slice a5 (k + 1) c5)).heap.size = w5.heap.size := by simp [World.setCell]
      have hB0 : Below w.heap.size w (w5.setCell ⟨w.heap.size + 1, 2, none⟩ (.slice a5 (k + 1) c5)) := ((HH.out.2.2.1.trans (HB24.out.mono HH.out.2.2.1.size)).trans (HB5.out.mono (by omega))).setCell (p := ⟨w.heap.size + 1, 2, none⟩) (Nat.le_succ _) _
      refine ⟨⟨k + 1, a5, c5, by go_num, by omega, ⟨heap_setCell_same w5 (w.heap.size + 1) 2 _ 24 _ hX5, hRR⟩, ?_, hB0, ?_⟩, by simp [intOf]; omega⟩
      · rw [hsz5, HSU.out]
        exact owL_frame HO5.out (fun j hj _ => Below.heap_setCell _ _ _ _ (by simp; omega))
      · rw [hsz5]
        exact Nat.le_trans HQ5.out HB5.out.size
    · obtain rfl : k = 16 := by omega
      have HOW := hid HH.out.2.1
      have HB05 := hid HH.out.2.2.1
      have hsz5 := HH.out.2.2.2
      have HS0 := hid HH.out.1
      clear HH HBE HRE hX1 hR1 hlt hk
      go_wp2_with fail
      go_loopw [12, 13] (fun v i wi => ∃ m : Nat, v = .string ⟨(Tr.valOf (L.take m)).toArray⟩ ∧ i = .int .i64 m ∧ m ≤ L.length ∧ wi = wr) (fun _ i _ => L.length - (intOf i).toNat)
      case atStart => exact ⟨0, rfl, rfl, Nat.zero_le _, rfl⟩
      case round =>
        obtain ⟨m, rfl, rfl, hm, hwi⟩ := hrel
        subst hwi
        by_cases hlt : m < L.length
        · obtain ⟨b', off', ak, ck, hab, hbk, g0, g1, _⟩ := HR.out m hlt
          simp only [Option.some.injEq, Addr.mk.injEq, and_true] at hab
          obtain ⟨rfl, rfl⟩ := hab
          have f0 := (HB05.out.cell (p := ⟨b, off + m * 2, none⟩) hb).trans g0
          have f1 := (HB05.out.cell (p := ⟨b, off + m * 2 + 1, none⟩) hb).trans g1
          have hbw : b < wr.heap.size := by omega
          have j1 : (0 : Int) ≤ (m : Int) := by omega
          have j2 : (m : Int) < (L.length : Int) := by omega
          have HVT := hid (valOfR_take L m hlt)
          clear g0 g1
          generalize L[m] = e at *
          obtain ⟨dig, val⟩ := e
          dsimp only at *
          cases dig with
          | nil =>
            rw [if_pos rfl] at HVT
            go_wp2_with fail
            exact ⟨⟨m + 1, by rw [HVT.out], by go_num, by omega, trivial⟩, by simp [intOf]; omega⟩
          | cons c r' =>
            rw [if_neg (by simp)] at HVT
            have j3 : ¬ (r'.length : Int) + 1 = 0 := by omega
            go_wp2_with fail
            exact ⟨⟨m + 1, by rw [HVT.out], by go_num, by omega, trivial⟩, by simp [intOf]; omega⟩
        · obtain rfl : m = L.length := by omega
          rw [List.take_length]
          have j2 : ¬ (L.length : Int) < (L.length : Int) := by omega
          obtain ⟨V, hV⟩ : ∃ V : ByteArray, V = ⟨(Tr.valOf L).toArray⟩ := ⟨_, rfl⟩
          have HVV : Hid (V.data.toList = Tr.valOf L) := by rw [Hid, hV]
          rw [← hV]
          have HDN : Hid ((refs f L 16).length ≤ 1000000) := by rw [Hid, refs_len]; omega
          have HDL : Hid ((refs f L 16 ++ [Tr.itB (Tr.valOf L)]).length = 17) := by rw [Hid, List.length_append, refs_len]; rfl
          clear hV HR
          generalize wr = w5 at *
          go_upto_region 30 with fail
          have hS : BrS (w.heap.size + 1) w.heap.size ax 16 cx w5.drew := HS0.out
          refine wp_region_L (BrS (w.heap.size + 1) w.heap.size ax 16 cx) 7 (by kernel_rfl) ?_
          refine takeL (i := 0) (v := .pointer (some ⟨w.heap.size + 1, 2, none⟩)) #[true, false, false, false, false, false, false, false] 117 rfl (by kernel_rfl) (by kernel_rfl) (by kernel_rfl) (by kernel_rfl) (by kernel_rfl) (fun _ _ _ h => h) hS (Or.inl ⟨by kernel_rfl, ?_⟩) (by kernel_rfl) rfl ?_
          · (intro w' hSw; go_simp)
          try simp only [Act.put, List.setIfInBounds_toArray, List.set_cons_zero, List.set_cons_succ]
          refine takeL (i := 1) (v := .slice ax 16 cx) #[true, true, false, false, false, false, false, false] 118 rfl (by kernel_rfl) (by kernel_rfl) (by kernel_rfl) (by kernel_rfl) (by kernel_rfl) (fun _ _ _ h => h) hS (Or.inl ⟨by kernel_rfl, ?_⟩) (by kernel_rfl) rfl ?_
          · (intro w' hSw; have z0 := (cell_of_row w' _ 2 _ _ _ hSw.1).trans rfl; go_simp)
          try simp only [Act.put, List.setIfInBounds_toArray, List.set_cons_zero, List.set_cons_succ]
          refine takeL (i := 2) (v := .string V) #[true, true, true, false, false, false, false, false] 119 rfl (by kernel_rfl) (by kernel_rfl) (by kernel_rfl) (by kernel_rfl) (by kernel_rfl) (fun _ _ _ h => h) hS (Or.inl ⟨by kernel_rfl, ?_⟩) (by kernel_rfl) rfl ?_
          · (intro w' hSw; go_simp)
          try simp only [Act.put, List.setIfInBounds_toArray, List.set_cons_zero, List.set_cons_succ]
          refine wpAnyL_ready (rs := [3]) (by kernel_rfl) (by simp) ?_
          refine AllReadyL.cons rfl (fun K hK => ?_) AllReadyL.nil
          go_simp
          refine (HBI.out _ _).mono ?_
          rintro e' w6 ⟨rfl, b6⟩
          have hS6 := brS_later hS b6
          have HB6 : Hid (Below w5.heap.size w5 w6) := below_undrew b6
          clear b6
          refine hK.out _ _ hS6 ?_
          clear hK K
          try simp only [List.setIfInBounds_toArray, List.set_cons_zero, List.set_cons_succ]
          refine wpAnyL_ready (rs := [4]) (by kernel_rfl) (by simp) ?_
          refine AllReadyL.cons rfl (fun K hK => ?_) AllReadyL.nil
          go_simp
          refine hK.out _ _ (brS_later hS6 ((Below.refl _ _).alloc (Nat.le_refl _) _)) ?_
          clear hK K
          try simp only [List.setIfInBounds_toArray, List.set_cons_zero, List.set_cons_succ]
          refine wpAnyL_ready (rs := [5]) (by kernel_rfl) (by simp) ?_
          refine AllReadyL.cons rfl (fun K hK => ?_) AllReadyL.nil
          refine step_push_item (w0 := w5) (f := f + 1) (lo := w.heap.size + 2) (hi := w5.heap.size) (lo1 := w6.heap.size) (hi1 := w6.heap.size) rfl (.tmp 118) (.tmp 121) rfl rfl rfl rfl HOW.out HB6.out (ow_bytes _ _ _ _ _ _ HVV.out) HB6.out.size (Nat.le_trans hsz5 HB6.out.size) (Nat.le_refl _) HB6.out.size (Nat.le_trans hsz5 HB6.out.size) ⟨rfl, rfl, rfl⟩ HDN.out ?_
          intro v7 w7 o7 b7
          have o7 : OwL w7 (f + 1) (w.heap.size + 2) w7.heap.size v7 (refs f L 16 ++ [Tr.itB (Tr.valOf L)]) := o7
          obtain ⟨a7, c7, hv7⟩ := ownL_len o7
          rw [HDL.out] at hv7
          subst hv7
          have hS7 : BrS (w.heap.size + 1) w.heap.size ax 16 cx w7 := ⟨(b7.block _ (by omega)).trans hS6.1, (b7.block _ (by omega)).trans hS6.2⟩
          have HO7 := hid o7
          have HB7 : Hid (Below w.heap.size w w7) := HB05.out.trans ((HB6.out.mono (by omega)).trans (b7.mono (by omega)))
          clear o7 b7
          refine hK.out _ _ hS7 ?_
          clear hK K
          refine takeL (i := 6) (v := .pointer (some ⟨w.heap.size + 1, 2, none⟩)) #[true, true, true, true, true, true, true, false] 123 rfl (by kernel_rfl) (by kernel_rfl) (by kernel_rfl) (by kernel_rfl) (by kernel_rfl) (fun _ _ _ h => h) hS7 (Or.inl ⟨by kernel_rfl, ?_⟩) (by kernel_rfl) rfl ?_
          · (intro w' hSw; go_simp)
          try simp only [Act.put]
          have q2 := (cell_of_row _ _ 2 _ _ _ hS7.1).trans rfl
          have hf2 := frozen_of_row _ _ 2 _ _ hS7.1
          refine wpAnyL_ready (rs := [7]) (by kernel_rfl) (by simp) ?_
          refine AllReadyL.last rfl (fun K hK => ?_)
          go_simp
          refine hK.out _ _ ?_
          clear hK K
          try simp only [List.setIfInBounds_toArray, List.set_cons_zero, List.set_cons_succ]
          refine wpAny_done (by kernel_rfl) ?_ _
          have hX6 := heap_setCell_same w7 (w.heap.size + 1) 2 _ 24 (.slice a7 17 c7) hS7.1
          have hR6 := (Below.heap_setCell w7 ⟨w.heap.size + 1, 2, none⟩ (.slice a7 17 c7) w.heap.size (by simp)).trans hS7.2
          have HO9 : Hid (OwL (w7.setCell ⟨w.heap.size + 1, 2, none⟩ (.slice a7 17 c7)) (f + 1) (w.heap.size + 2) w7.heap.size (.slice a7 17 c7) (refs f L 16 ++ [Tr.itB (Tr.valOf L)])) := by
            have h := own_frame (E := 24) (w := w7) (w' := w7.setCell ⟨w.heap.size + 1, 2, none⟩ (.slice a7 17 c7)) _ _ _ _ _ (fun k hk _ => Below.heap_setCell _ _ _ _ (by simp; omega)) (ow_list HO7.out)
            obtain ⟨sl, hv, hl⟩ := h
            simp only [Value.agg.injEq] at hv
            have : sl = .slice a7 17 c7 := by
              have := congrArg (fun z : Array Value => z[2]?) hv
              simpa using this.symm
            subst this
            exact hl
          have HB9 : Hid (Below w.heap.size w (w7.setCell ⟨w.heap.size + 1, 2, none⟩ (.slice a7 17 c7))) := HB7.out.setCell (p := ⟨w.heap.size + 1, 2, none⟩) (Nat.le_succ _) _
          have HZ9 : Hid ((w7.setCell ⟨w.heap.size + 1, 2, none⟩ (.slice a7 17 c7)).heap.size = w7.heap.size) := by simp [Hid, World.setCell]
          generalize w7.setCell ⟨w.heap.size + 1, 2, none⟩ (.slice a7 17 c7) = w9 at *
          have x0 := (cell_of_row _ _ 0 _ _ _ hX6).trans rfl
          have x1 := (cell_of_row _ _ 1 _ _ _ hX6).trans rfl
          have x2 := (cell_of_row _ _ 2 _ _ _ hX6).trans rfl
          have r0 := (cell_of_row _ _ 0 _ _ _ hR6).trans rfl
          have r1 := (cell_of_row _ _ 1 _ _ _ hR6).trans rfl
          have r2 := (cell_of_row _ _ 2 _ _ _ hR6).trans rfl
          have g0 := frozen_of_row _ _ 0 _ _ hR6
          have g1 := frozen_of_row _ _ 1 _ _ hR6
          have g2 := frozen_of_row _ _ 2 _ _ hR6
          clear q2 hf2 hS7 hS6 hS
          go_wp2_with fail
          obtain ⟨z0, z1, z2⟩ := set3 hR6 (.bool true) (.string ⟨#[]⟩) (.slice a7 17 c7)
          refine bodyPost_ret (v := .agg #[.bool true, .string ⟨#[]⟩, .slice a7 17 c7]) (by simp [results, Try.results55, go_sem, z0, z1, z2]) rfl ⟨_, rfl, ?_, three_below HB9.out (Nat.le_refl _) _ _ _⟩
          have hsz : (((w9.setCell ⟨w.heap.size, 0, none⟩ (.bool true)).setCell ⟨w.heap.size, 1, none⟩ (.string ⟨#[]⟩)).setCell ⟨w.heap.size, 2, none⟩ (.slice a7 17 c7)).heap.size = w9.heap.size := by simp [World.setCell]
          rw [hsz]
          have ho := own_widen (ow_list HO9.out) (lo' := w.heap.size + 1) (hi' := w9.heap.size) (by omega) (Nat.le_of_eq HZ9.out.symm)
          exact own_widen (own_frame _ _ _ _ _ (fun k hk _ => by rw [setCell_block _ _ _ _ (by show k ≠ w.heap.size; omega), setCell_block _ _ _ _ (by show k ≠ w.heap.size; omega), setCell_block _ _ _ _ (by show k ≠ w.heap.size; omega)]) ho) (Nat.le_succ _) (Nat.le_refl _)
end Go.Proofs.Ytbmohenjphmlgaa

/- node and reference (of the document's own answer) answer as the document says. -/
namespace Go.Proofs.Ytbmohenjphmlgaa
open Go.RowKit
set_option maxRecDepth 100000

theorem nodeAt_all : ∀ f, f ≤ 100 → NodeAt f := by
  intro f
  induction f with
  | zero =>
    intro _ l a cap w hr hfit hap hl
    have : l = [] := by
      cases l with
      | nil => rfl
      | cons e l => have := (hfit e (List.mem_cons_self ..)).1; omega
    subst this
    exact nodeR_empty a cap 0 w
  | succ f ih =>
    intro hf l a cap w hr hfit hap hl
    have hR := refR_any (f := f) (by omega) (ih (by omega))
    rcases Tr.list_cases l with rfl | ⟨e, rfl⟩ | ⟨x0, x1, r, rfl⟩
    · exact nodeR_empty a cap (f + 1) w
    · have h := hfit e (List.mem_cons_self ..)
      exact nodeR_leaf a cap f e w hr h.2.1 (by have := h.1; omega)
    · by_cases hs : Tr.shared (x0 :: x1 :: r) = []
      · exact nodeR_branch hR x0 x1 r a cap w hr hfit (by omega) hap hl hs
      · exact nodeR_ext hR x0 x1 r a cap w hr hfit (by omega) hap hl hs
end Go.Proofs.Ytbmohenjphmlgaa

/- The walk of tableOf (of the program): the pairs that count. -/
namespace Go.Proofs.Ytbmohenjphmlgaa
open Go.RowKit
set_option maxRecDepth 100000

/-- The last place below k with a key, or nought. -/
def lastAt (l : List (ByteArray × ByteArray)) (key : List UInt8) : Nat → Nat
  | 0 => 0
  | k + 1 => if (l[k]?).map (fun p => p.1.data.toList) = some key then k else lastAt l key k

theorem lastAt_max (l : List (ByteArray × ByteArray)) (key : List UInt8) (k j : Nat) (hj : j < k) (h : (l[j]?).map (fun p => p.1.data.toList) = some key) : j ≤ lastAt l key k ∧ lastAt l key k < k ∧ (l[lastAt l key k]?).map (fun p => p.1.data.toList) = some key := by
  induction k with
  | zero => omega
  | succ k ih =>
    unfold lastAt
    by_cases hk : (l[k]?).map (fun p => p.1.data.toList) = some key
    · rw [if_pos hk]; exact ⟨by omega, by omega, hk⟩
    · rw [if_neg hk]
      have hne : j ≠ k := fun e => hk (e ▸ h)
      have := ih (by omega)
      exact ⟨this.1, by omega, this.2.2⟩

/-- Does the i-th pair count? -/
def counts (l : List (ByteArray × ByteArray)) (p : ByteArray × ByteArray) (i : Nat) : Prop := p.1.data.toList ∉ (l.drop (i + 1)).map (fun q => q.1.data.toList) ∧ p.2.data.toList ≠ []

instance (l : List (ByteArray × ByteArray)) (p : ByteArray × ByteArray) (i : Nat) : Decidable (counts l p i) := by unfold counts; infer_instance

theorem counts_iff {l : List (ByteArray × ByteArray)} {i : Nat} (hi : i < l.length) : counts l l[i] i ↔ lastAt l l[i].1.data.toList l.length = i ∧ l[i].2.data.toList ≠ [] := by
  have hat : (l[i]?).map (fun p => p.1.data.toList) = some l[i].1.data.toList := by rw [List.getElem?_eq_getElem hi]; rfl
  have hm := lastAt_max l l[i].1.data.toList l.length i hi hat
  unfold counts
  refine and_congr_left fun _ => ?_
  constructor
  · intro hno
    refine Classical.byContradiction fun hne => hno ?_
    have hlt : i < lastAt l l[i].1.data.toList l.length := by omega
    have hk := hm.2.2
    rw [List.getElem?_eq_getElem hm.2.1] at hk
    refine List.mem_map.2 ⟨l[lastAt l l[i].1.data.toList l.length]'hm.2.1, ?_, by simpa using hk⟩
    rw [List.mem_iff_getElem]
    refine ⟨lastAt l l[i].1.data.toList l.length - (i + 1), by rw [List.length_drop]; omega, ?_⟩
    rw [List.getElem_drop]
    congr 1
    omega
  · intro he hin
    obtain ⟨q, hq, hqk⟩ := List.mem_map.1 hin
    obtain ⟨j, hj, rfl⟩ := List.getElem_of_mem hq
    rw [List.length_drop] at hj
    rw [List.getElem_drop] at hqk
    have := lastAt_max l l[i].1.data.toList l.length (i + 1 + j) (by omega) (by rw [List.getElem?_eq_getElem (by omega)]; simpa using hqk)
    omega

def digB (p : ByteArray × ByteArray) : ByteArray × ByteArray := (⟨(Tr.digits p.1.data.toList).toArray⟩, p.2)

/-- The pairs that count, among the first k. -/
def tabTo (l : List (ByteArray × ByteArray)) (k : Nat) : List (ByteArray × ByteArray) := (List.range k).filterMap fun i => match l[i]? with | some p => if counts l p i then some (digB p) else none | none => none

theorem tabTo_succ {l : List (ByteArray × ByteArray)} {k : Nat} (hk : k < l.length) : tabTo l (k + 1) = tabTo l k ++ (if counts l l[k] k then [digB l[k]] else []) := by
  unfold tabTo
  rw [List.range_succ, List.filterMap_append]
  congr 1
  simp only [List.filterMap_cons, List.filterMap_nil, List.getElem?_eq_getElem hk]
  split <;> simp_all

/-- As lists of bytes. -/
def lists (l : List (ByteArray × ByteArray)) : List (List UInt8 × List UInt8) := l.map fun p => (p.1.data.toList, p.2.data.toList)

theorem tabTo_table : ∀ l : List (ByteArray × ByteArray), ents (tabTo l l.length) = Tr.table (lists l)
  | [] => rfl
  | p :: r => by
    have ih := tabTo_table r
    have e : tabTo (p :: r) (p :: r).length = (if counts (p :: r) p 0 then [digB p] else []) ++ tabTo r r.length := by
      unfold tabTo
      rw [List.length_cons, List.range_succ_eq_map, List.filterMap_cons, List.filterMap_map]
      have e2 : ((fun i => match (p :: r)[i]? with | some q => if counts (p :: r) q i then some (digB q) else none | none => none) ∘ Nat.succ) = fun i => match r[i]? with | some q => if counts r q i then some (digB q) else none | none => none := by
        funext i
        simp only [Function.comp, Nat.succ_eq_add_one, List.getElem?_cons_succ]
        rfl
      rw [e2]
      simp only [List.getElem?_cons_zero]
      by_cases hc : counts (p :: r) p 0
      · rw [if_pos hc, if_pos hc]; rfl
      · rw [if_neg hc, if_neg hc]; rfl
    rw [e]
    unfold ents at ih ⊢
    rw [List.map_append, ih]
    show _ = Tr.table ((p.1.data.toList, p.2.data.toList) :: lists r)
    rw [Tr.table]
    have hmap : (lists r).map (·.1) = r.map (fun q => q.1.data.toList) := by unfold lists; rw [List.map_map]; rfl
    by_cases hc : counts (p :: r) p 0
    · rw [if_pos hc, if_neg]
      · rfl
      · rw [hmap]
        exact fun h => h.elim (fun h => hc.1 h) (fun h => hc.2 h)
    · rw [if_neg hc, if_pos]
      · rfl
      · rw [hmap]
        refine Classical.byContradiction fun h => hc ?_
        rw [not_or] at h
        exact ⟨h.1, h.2⟩

end Go.Proofs.Ytbmohenjphmlgaa
