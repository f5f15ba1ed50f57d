/- Part 23 of a proof: what the last text needs. -/
import Derived.Test.YtbmohenjphmlgaaPart22
import Derived.Test.YtbmohenjphmlgaaPart10
import Derived.Test.YtbmohenjphmlgaaPart5
import Derived.Test.YtbmohenjphmlgaaPart11
/- The walk of node (of the document's own answer), where the entries share no digit. -/
namespace Go.Proofs.Ytbmohenjphmlgaa
open Go.RowKit
set_option maxRecDepth 100000

/-- The references of a branch's first k digits. -/
def refs (f : Nat) (l : List Tr.Ent) (k : Nat) : List Itm := (List.range k).map fun d => Tr.ref (Tr.node f (Tr.behind [UInt8.ofNat d] l))

theorem refs_len (f : Nat) (l : List Tr.Ent) (k : Nat) : (refs f l k).length = k := by simp [refs]
theorem refs_succ (f : Nat) (l : List Tr.Ent) (k : Nat) : refs f l (k + 1) = refs f l k ++ [Tr.ref (Tr.node f (Tr.behind [UInt8.ofNat k] l))] := by
  unfold refs
  rw [List.range_succ, List.map_append]
  rfl

theorem valOfR_take (l : List Tr.Ent) (k : Nat) (h : k < l.length) : Tr.valOf (l.take (k + 1)) = if l[k].dig = [] then l[k].val else Tr.valOf (l.take k) := by
  unfold Tr.valOf
  rw [List.take_succ_eq_append_getElem h, List.foldl_append]
  rfl

/-- What the making of a branch reads. -/
def BrS (X R : Nat) (ax : Option Addr) (k cx : Nat) (w : World) : Prop := w.heap[X]? = some (.cells #[.bool true, .string ⟨#[]⟩, .slice ax k cx] 24 (0, 0)) ∧ w.heap[R]? = some (.cells #[.bool false, .string ⟨#[]⟩, .slice none 0 0] 24 (0, 0))

theorem brS_later {X R : Nat} {ax : Option Addr} {k cx : Nat} {w w' : World} (h : BrS X R ax k cx w) (hb : Below w.heap.size w w') : BrS X R ax k cx w' := ⟨kept_block hb h.1, kept_block hb h.2⟩

/-- An item that was just laid is appended to a list of the call's own: at a step of a region that draws. -/
theorem step_push_item {ops : Array Oper} {o : Oper} {act : Act} {K : Act → World → Prop} {Q' : Exit → Act → World → Prop} {E : Prop} (hgd : o.guard = none) (s x : Operand)
    (hop : o.op = .call { callee := .builtin .append, args := #[s, x], argTypes := #[22, 22] })
    {w0 w3 : World} {f lo hi lo1 hi1 g : Nat} {u a b c : Value} {done : List Itm} {y : Itm} (hs : act.eval s = u) (hx : act.eval x = .slice (some ⟨g, 0, none⟩) 1 1) (hg : g = w3.heap.size)
    (hown : OwL w0 f lo hi u done) (hb : Below hi w0 w3) (hy : Ow w3 f lo1 hi1 (.agg #[a, b, c]) y) (h1 : hi ≤ lo1) (h2 : lo ≤ lo1) (h3 : hi1 ≤ w3.heap.size) (h4 : hi ≤ w3.heap.size) (h5 : lo ≤ w3.heap.size)
    (hone : a.oneCell' = true ∧ b.oneCell' = true ∧ c.oneCell' = true) (hn : done.length ≤ 1000000)
    (h : ∀ v' w', OwL w' f lo w'.heap.size v' (done ++ [y]) → Below lo w3 w' → K (act.put o.dst v') w') :
    if Region.wanted o (yielded ops act.tmps) = true then Oper.wp Try.prog o act (w3.alloc (.cells #[a, b, c] 24)) K Q' else E := by
  subst hg
  have hw : Region.wanted o (yielded ops act.tmps) = true := by simp [Region.wanted, hgd]
  rw [if_pos hw]
  obtain ⟨i0, hi0, hz0, hz1, hz2⟩ := info_parts infoItem
  obtain ⟨xs, ho, hgl, L, H, hL, hLH⟩ := hown
  have hbW : Below w3.heap.size w3 (w3.alloc (.cells #[a, b, c] 24)) := (Below.refl _ _).alloc (Nat.le_refl _) _
  have hfr : ∀ k, k < hi → (w3.alloc (.cells #[a, b, c] 24)).heap[k]? = w0.heap[k]? := fun k hk => by rw [hbW.block k (by omega)]; exact hb.block k hk
  obtain ⟨v', w', hr, ho2, hgr, hnew⟩ := run_append_mine (P := Try.prog) _ lo 22 o.type 24 i0 _ 3 48 Try.underlying22 hi0 hz0 hz1 hz2 rfl (by decide) u done.length xs (owns_frame ho (fun g hg => hfr g (hgl g hg))) ⟨w3.heap.size, 0, none⟩ 1 1 [a, b, c] rfl (cells_three w3 a b c 24) (by
    intro u hu
    simp only [List.mem_cons, List.not_mem_nil, or_false] at hu
    rcases hu with rfl | rfl | rfl
    · exact hone.1
    · exact hone.2.1
    · exact hone.2.2) (by unfold maxLen; omega) (by omega) (by simp; omega)
  unfold Oper.wp execOp
  simp only [hop, resolve, invoke, builtin, Sem.run_bind, Sem.run_pure, Result.andThen_ok, List.map_toArray, List.map_cons, List.map_nil, hs, hx, hr]
  refine h v' w' ?_ ?_
  · exact ownL_push ho hgl L H hL hLH (hb.trans (hbW.mono h4)) (own_frame _ _ _ _ _ (fun k _ hk => hbW.block k (by omega)) hy) h1 h2 (by simp; omega) ho2 hgr hnew (by simp; omega)
  · exact (hbW.mono h5).grown hgr (by simp; omega) (fun k hk => (ho.lt k hk).1)

theorem owL_frame {w w' : World} {n lo hi : Nat} {sl : Value} {l : List Itm} (h : OwL w n lo hi sl l) (hk : ∀ k, lo ≤ k → k < hi → w'.heap[k]? = w.heap[k]?) : OwL w' n lo hi sl l := by
  obtain ⟨sl', hv, hl⟩ := own_frame (E := 24) (n + 1) lo hi _ ⟨true, [], l⟩ hk (ow_list h)
  have : sl' = sl := by
    simp only [Value.agg.injEq] at hv
    have := congrArg (fun z : Array Value => z[2]?) hv
    simpa using this.symm
  subst this
  exact hl

set_option maxHeartbeats 12800000 in
theorem nodeR_branch {f : Nat} (hR : RefAt f) (x0 x1 : Tr.Ent) (r : List Tr.Ent) (a : Option Addr) (cap : Nat) (w : World) (hr : ERd w.heap.size w a (x0 :: x1 :: r)) (hfit : Tr.Fits (f + 1) (x0 :: x1 :: r)) (hf : f ≤ 100) (hap : Tr.Apart (x0 :: x1 :: r)) (hl : (x0 :: x1 :: r).length ≤ 60) (hsh : Tr.shared (x0 :: x1 :: r) = []) :
    Calls Try.prog 55 #[.slice a (x0 :: x1 :: r).length cap] w (NodePost (f + 2) (Tr.node (f + 1) (x0 :: x1 :: r)) w) := by
  have hnode : Tr.node (f + 1) (x0 :: x1 :: r) = Tr.itL (refs f (x0 :: x1 :: r) 16 ++ [Tr.itB (Tr.valOf (x0 :: x1 :: r))]) := by
    rw [Tr.node]; unfold Tr.nodeOf; simp only [if_pos hsh]; rfl
  have hdl : ∀ e ∈ x0 :: x1 :: r, e.dig.length ≤ 1000000 := fun e he => by have := (hfit e he).1; omega
  have hcm := fun w' (b : Below w.heap.size w w') => commonR_any a cap x0 (x1 :: r) w' ((hr.later b).wider b.size) (by simp at hl ⊢; omega) hdl
  rw [hsh] at hcm
  have HCM := hid hcm
  have HBE := hid (fun (d : UInt8) w' (b : Below w.heap.size w w') => behindR_any a cap (x0 :: x1 :: r) d w' ((hr.later b).wider b.size) (by omega) hdl)
  have HRE := hid (fun (d : UInt8) a cap w h => hR (Tr.behind [d] (x0 :: x1 :: r)) a cap w h (hfit.behind (by simp)) hap.behind (Nat.le_trans (behind_len _ _) hl))
  have HBI := hid (fun s w => bytesItemR_any s w)
  have HR := hid hr
  rw [hnode]
  have hL2 : 2 ≤ (x0 :: x1 :: r).length := by simp
  have HX0 : Hid ((x0 :: x1 :: r).length = (x1 :: r).length + 1) := rfl
  rw [← HX0.out] at HCM
  obtain ⟨b, off, ad, cd0, rfl, hb, e0, hval0, hbr0⟩ := hr 0 (by simp)
  clear HX0 hnode hr hfit hap hsh hR hdl hcm e0 hval0 hbr0 ad cd0
  generalize x0 :: x1 :: r = L at *
  have i0 : ¬ (L.length : Int) = 0 := by omega
  have i1 : ¬ (L.length : Int) = 1 := by omega
  go_enter Try.func55, Try.ntmps55
  go_wp2_with fail
  have HB0 := hid (((Below.refl w.heap.size w).alloc (Nat.le_refl _) (.cells #[.bool false, .string ⟨#[]⟩, .slice none 0 0] 24)).alloc (by simp) (.cells #[.bool true, .string ⟨#[]⟩, .slice none 0 0] 24))
  refine (HCM.out _ HB0.out).mono ?_
  rintro e' w1 ⟨rfl, b1⟩
  have HB1 : Hid (Below w.heap.size w w1) := HB0.out.trans (b1.mono HB0.out.size)
  have hX1 := old_block2 b1
  have hR1 := kept_block b1 (block_alloc (heap_alloc_new w _) (O' := .cells #[.bool true, .string ⟨#[]⟩, .slice none 0 0] 24))
  have hsz1 : w.heap.size + 2 ≤ w1.heap.size := Nat.succ_le_of_lt (Array.getElem?_eq_some_iff.1 hX1).1
  clear b1 HB0 HCM
  go_wp2_with fail
  go_loopw [10] (fun i wr => ∃ (k : Nat) (ax : Option Addr) (cx : Nat), i = .int .i64 k ∧ k ≤ 16 ∧ Hid (BrS (w.heap.size + 1) w.heap.size ax k cx wr ∧ OwL wr (f + 1) (w.heap.size + 2) wr.heap.size (.slice ax k cx) (refs f L k) ∧ Below w.heap.size w wr ∧ w.heap.size + 2 ≤ wr.heap.size)) (fun i _ => 16 - (intOf i).toNat)
  case atStart => exact ⟨0, none, 0, rfl, by omega, ⟨hX1, hR1⟩, ownL_nil _ _ _ _ _, HB1.out, hsz1⟩
  case round =>
    obtain ⟨k, ax, cx, rfl, hk, HH⟩ := hrel
    by_cases hlt : k < 16
    · have i2 : (k : Int) < 16 := by omega
      have hk8 : (UInt8.ofNat k).toNat = k := by rw [UInt8.toNat_ofNat']; omega
      have HBK := hid (HBE.out (UInt8.ofNat k) wr HH.out.2.2.1)
      rw [hk8] at HBK
      have HRK := hid (fun a cap w h => HRE.out (UInt8.ofNat k) a cap w h)
      have HSU := hid (refs_succ f L k)
      generalize Tr.behind [UInt8.ofNat k] L = BL at *
      clear hk8
      go_wp2_with fail
      refine HBK.out.mono ?_
      rintro e' w2 ⟨a2, c2, rfl, r2, b2⟩
      have HR2 := hid r2
      have HB2 := hid b2
      clear r2 b2
      go_wp2_with fail
      refine (HRK.out _ _ _ HR2.out).mono ?_
      rintro e' w3 ⟨v3, rfl, o3, b3⟩
      obtain ⟨at_, ct, rfl⟩ := ow_shape o3
      generalize Tr.ref (Tr.node f BL) = t at *
      have HB23 : Hid (Below wr.heap.size wr w3) := HB2.out.trans (b3.mono HB2.out.size)
      have HSZ3 := hid HB23.out.size
      have hszr := HH.out.2.2.2
      have hX3 := kept_block HB23.out HH.out.1.1
      have hR3 := kept_block HB23.out HH.out.1.2
      have HO3 := hid o3
      have hw23 : w2.heap.size ≤ w3.heap.size := b3.size
      have hwr2 : wr.heap.size ≤ w2.heap.size := HB2.out.size
      have HBY : Hid (Below w3.heap.size w3 (w3.alloc (.cells #[.bool t.list, .string ⟨t.bytes.toArray⟩, .slice at_ t.items.length ct] 24))) := (Below.refl _ _).alloc (Nat.le_refl _) _
      clear o3 b3
      go_upto_region 23 with fail
      have HB24 : Hid (Below wr.heap.size wr (w3.alloc (.cells #[.bool t.list, .string ⟨t.bytes.toArray⟩, .slice at_ t.items.length ct] 24))) := HB23.out.trans (HBY.out.mono HB23.out.size)
      have hX4 := kept_block HBY.out hX3
      have hY4 := heap_alloc_new w3 (.cells #[.bool t.list, .string ⟨t.bytes.toArray⟩, .slice at_ t.items.length ct] 24)
      have hR4 := kept_block HBY.out hR3
      have HO4 := hid (own_frame (E := 24) _ _ _ _ _ (fun k _ hk => HBY.out.block k hk) HO3.out)
      have hsz4 : w3.heap.size ≤ (w3.alloc (.cells #[.bool t.list, .string ⟨t.bytes.toArray⟩, .slice at_ t.items.length ct] 24)).heap.size := HBY.out.size
      obtain ⟨w4, hw4⟩ : ∃ w4, w4 = w3.alloc (.cells #[.bool t.list, .string ⟨t.bytes.toArray⟩, .slice at_ t.items.length ct] 24) := ⟨_, rfl⟩
      rw [← hw4] at HB24 hX4 hY4 hR4 HO4 hsz4 ⊢
      clear hw4 HBY
      have x2 := (cell_of_row _ _ 2 _ _ _ hX4).trans rfl
      have y0 := (cell_of_row _ _ 0 _ _ _ hY4).trans rfl
      have y1 := (cell_of_row _ _ 1 _ _ _ hY4).trans rfl
      have y2 := (cell_of_row _ _ 2 _ _ _ hY4).trans rfl
      have HOW := hid HH.out.2.1
      have HDN : Hid ((refs f L k).length ≤ 1000000) := by rw [Hid, refs_len]; omega
      have hXw4 : w.heap.size + 1 < w4.heap.size := by omega
      have hne4 : ¬ w.heap.size + 1 = w4.heap.size := by omega
      have HQ1 : Hid (wr.heap.size ≤ w2.heap.size) := hwr2
      have HQ2 : Hid (w.heap.size + 2 ≤ w2.heap.size) := by rw [Hid]; omega
      have HQ3 : Hid (w3.heap.size ≤ w4.heap.size) := hsz4
      have HQ4 : Hid (wr.heap.size ≤ w4.heap.size) := by rw [Hid]; omega
      have HQ5 : Hid (w.heap.size + 2 ≤ w4.heap.size) := by rw [Hid]; omega
      have HLK : Hid ((refs f L k ++ [t]).length = k + 1) := by rw [Hid, List.length_append, refs_len]; rfl
      have HFR : Hid (∀ w', Below (w.heap.size + 2) w4 w' → w'.heap[w.heap.size + 1]? = some (.cells #[.bool true, .string ⟨#[]⟩, .slice ax k cx] 24 (0, 0))) := fun w' h => (h.block _ (by omega)).trans hX4
      go_wp2_with (at_builtin; go_loud (refine wpList_append_one rfl (.tmp 94) (.tmp 96) rfl rfl rfl rfl HOW.out HB24.out HO4.out HQ1.out HQ2.out HQ3.out HQ4.out HQ5.out ⟨rfl, rfl, rfl⟩ HDN.out ?_); intro v5 w5 ho5 hb5; obtain ⟨a5, c5, hv5⟩ := ownL_len ho5; rw [HLK.out] at hv5; subst hv5; have HO5 := hid ho5; have HB5 := hid hb5; have hX5 := HFR.out _ hb5; have q2 := (cell_of_row _ _ 2 _ _ _ hX5).trans rfl; have hf2 := frozen_of_row _ _ 2 _ _ hX5; clear ho5 hb5)
      have hRR : (w5.setCell ⟨w.heap.size + 1, 2, none⟩ (.slice a5 (k + 1) c5)).heap[w.heap.size]? = some (.cells #[.bool false, .string ⟨#[]⟩, .slice none 0 0] 24 (0, 0)) := (Below.heap_setCell w5 ⟨w.heap.size + 1, 2, none⟩ _ w.heap.size (by simp)).trans ((HB5.out.block _ (by omega)).trans hR4)
      have hsz5 : (w5.setCell ⟨w.heap.size + 1, 2, none⟩ (.slice a5 (k + 1) c5)).heap.size = w5.heap.size := by simp [World.setCell]
      have hB0 : Below w.heap.size w (w5.setCell ⟨w.heap.size + 1, 2, none⟩ (.slice a5 (k + 1) c5)) := ((HH.out.2.2.1.trans (HB24.out.mono HH.out.2.2.1.size)).trans (HB5.out.mono (by omega))).setCell (p := ⟨w.heap.size + 1, 2, none⟩) (Nat.le_succ _) _
      refine ⟨⟨k + 1, a5, c5, by go_num, by omega, ⟨heap_setCell_same w5 (w.heap.size + 1) 2 _ 24 _ hX5, hRR⟩, ?_, hB0, ?_⟩, by simp [intOf]; omega⟩
      · rw [hsz5, HSU.out]
        exact owL_frame HO5.out (fun j hj _ => Below.heap_setCell _ _ _ _ (by simp; omega))
      · rw [hsz5]
        exact Nat.le_trans HQ5.out HB5.out.size
    · obtain rfl : k = 16 := by omega
      have HOW := hid HH.out.2.1
      have HB05 := hid HH.out.2.2.1
      have hsz5 := HH.out.2.2.2
      have HS0 := hid HH.out.1
      clear HH HBE HRE hX1 hR1 hlt hk
      go_wp2_with fail
      go_loopw [12, 13] (fun v i wi => ∃ m : Nat, v = .string ⟨(Tr.valOf (L.take m)).toArray⟩ ∧ i = .int .i64 m ∧ m ≤ L.length ∧ wi = wr) (fun _ i _ => L.length - (intOf i).toNat)
      case atStart => exact ⟨0, rfl, rfl, Nat.zero_le _, rfl⟩
      case round =>
        obtain ⟨m, rfl, rfl, hm, hwi⟩ := hrel
        subst hwi
        by_cases hlt : m < L.length
        · obtain ⟨b', off', ak, ck, hab, hbk, g0, g1, _⟩ := HR.out m hlt
          simp only [Option.some.injEq, Addr.mk.injEq, and_true] at hab
          obtain ⟨rfl, rfl⟩ := hab
          have f0 := (HB05.out.cell (p := ⟨b, off + m * 2, none⟩) hb).trans g0
          have f1 := (HB05.out.cell (p := ⟨b, off + m * 2 + 1, none⟩) hb).trans g1
          have hbw : b < wr.heap.size := by omega
          have j1 : (0 : Int) ≤ (m : Int) := by omega
          have j2 : (m : Int) < (L.length : Int) := by omega
          have HVT := hid (valOfR_take L m hlt)
          clear g0 g1
          generalize L[m] = e at *
          obtain ⟨dig, val⟩ := e
          dsimp only at *
          cases dig with
          | nil =>
            rw [if_pos rfl] at HVT
            go_wp2_with fail
            exact ⟨⟨m + 1, by rw [HVT.out], by go_num, by omega, trivial⟩, by simp [intOf]; omega⟩
          | cons c r' =>
            rw [if_neg (by simp)] at HVT
            have j3 : ¬ (r'.length : Int) + 1 = 0 := by omega
            go_wp2_with fail
            exact ⟨⟨m + 1, by rw [HVT.out], by go_num, by omega, trivial⟩, by simp [intOf]; omega⟩
        · obtain rfl : m = L.length := by omega
          rw [List.take_length]
          have j2 : ¬ (L.length : Int) < (L.length : Int) := by omega
          obtain ⟨V, hV⟩ : ∃ V : ByteArray, V = ⟨(Tr.valOf L).toArray⟩ := ⟨_, rfl⟩
          have HVV : Hid (V.data.toList = Tr.valOf L) := by rw [Hid, hV]
          rw [← hV]
          have HDN : Hid ((refs f L 16).length ≤ 1000000) := by rw [Hid, refs_len]; omega
          have HDL : Hid ((refs f L 16 ++ [Tr.itB (Tr.valOf L)]).length = 17) := by rw [Hid, List.length_append, refs_len]; rfl
          clear hV HR
          generalize wr = w5 at *
          go_upto_region 30 with fail
          have hS : BrS (w.heap.size + 1) w.heap.size ax 16 cx w5.drew := HS0.out
          refine wp_region_L (BrS (w.heap.size + 1) w.heap.size ax 16 cx) 7 (by kernel_rfl) ?_
          refine takeL (i := 0) (v := .pointer (some ⟨w.heap.size + 1, 2, none⟩)) #[true, false, false, false, false, false, false, false] 117 rfl (by kernel_rfl) (by kernel_rfl) (by kernel_rfl) (by kernel_rfl) (by kernel_rfl) (fun _ _ _ h => h) hS (Or.inl ⟨by kernel_rfl, ?_⟩) (by kernel_rfl) rfl ?_
          · (intro w' hSw; go_simp)
          try simp only [Act.put, List.setIfInBounds_toArray, List.set_cons_zero, List.set_cons_succ]
          refine takeL (i := 1) (v := .slice ax 16 cx) #[true, true, false, false, false, false, false, false] 118 rfl (by kernel_rfl) (by kernel_rfl) (by kernel_rfl) (by kernel_rfl) (by kernel_rfl) (fun _ _ _ h => h) hS (Or.inl ⟨by kernel_rfl, ?_⟩) (by kernel_rfl) rfl ?_
          · (intro w' hSw; have z0 := (cell_of_row w' _ 2 _ _ _ hSw.1).trans rfl; go_simp)
          try simp only [Act.put, List.setIfInBounds_toArray, List.set_cons_zero, List.set_cons_succ]
          refine takeL (i := 2) (v := .string V) #[true, true, true, false, false, false, false, false] 119 rfl (by kernel_rfl) (by kernel_rfl) (by kernel_rfl) (by kernel_rfl) (by kernel_rfl) (fun _ _ _ h => h) hS (Or.inl ⟨by kernel_rfl, ?_⟩) (by kernel_rfl) rfl ?_
          · (intro w' hSw; go_simp)
          try simp only [Act.put, List.setIfInBounds_toArray, List.set_cons_zero, List.set_cons_succ]
          refine wpAnyL_ready (rs := [3]) (by kernel_rfl) (by simp) ?_
          refine AllReadyL.cons rfl (fun K hK => ?_) AllReadyL.nil
          go_simp
          refine (HBI.out _ _).mono ?_
          rintro e' w6 ⟨rfl, b6⟩
          have hS6 := brS_later hS b6
          have HB6 : Hid (Below w5.heap.size w5 w6) := below_undrew b6
          clear b6
          refine hK.out _ _ hS6 ?_
          clear hK K
          try simp only [List.setIfInBounds_toArray, List.set_cons_zero, List.set_cons_succ]
          refine wpAnyL_ready (rs := [4]) (by kernel_rfl) (by simp) ?_
          refine AllReadyL.cons rfl (fun K hK => ?_) AllReadyL.nil
          go_simp
          refine hK.out _ _ (brS_later hS6 ((Below.refl _ _).alloc (Nat.le_refl _) _)) ?_
          clear hK K
          try simp only [List.setIfInBounds_toArray, List.set_cons_zero, List.set_cons_succ]
          refine wpAnyL_ready (rs := [5]) (by kernel_rfl) (by simp) ?_
          refine AllReadyL.cons rfl (fun K hK => ?_) AllReadyL.nil
          refine step_push_item (w0 := w5) (f := f + 1) (lo := w.heap.size + 2) (hi := w5.heap.size) (lo1 := w6.heap.size) (hi1 := w6.heap.size) rfl (.tmp 118) (.tmp 121) rfl rfl rfl rfl HOW.out HB6.out (ow_bytes _ _ _ _ _ _ HVV.out) HB6.out.size (Nat.le_trans hsz5 HB6.out.size) (Nat.le_refl _) HB6.out.size (Nat.le_trans hsz5 HB6.out.size) ⟨rfl, rfl, rfl⟩ HDN.out ?_
          intro v7 w7 o7 b7
          have o7 : OwL w7 (f + 1) (w.heap.size + 2) w7.heap.size v7 (refs f L 16 ++ [Tr.itB (Tr.valOf L)]) := o7
          obtain ⟨a7, c7, hv7⟩ := ownL_len o7
          rw [HDL.out] at hv7
          subst hv7
          have hS7 : BrS (w.heap.size + 1) w.heap.size ax 16 cx w7 := ⟨(b7.block _ (by omega)).trans hS6.1, (b7.block _ (by omega)).trans hS6.2⟩
          have HO7 := hid o7
          have HB7 : Hid (Below w.heap.size w w7) := HB05.out.trans ((HB6.out.mono (by omega)).trans (b7.mono (by omega)))
          clear o7 b7
          refine hK.out _ _ hS7 ?_
          clear hK K
          refine takeL (i := 6) (v := .pointer (some ⟨w.heap.size + 1, 2, none⟩)) #[true, true, true, true, true, true, true, false] 123 rfl (by kernel_rfl) (by kernel_rfl) (by kernel_rfl) (by kernel_rfl) (by kernel_rfl) (fun _ _ _ h => h) hS7 (Or.inl ⟨by kernel_rfl, ?_⟩) (by kernel_rfl) rfl ?_
          · (intro w' hSw; go_simp)
          try simp only [Act.put]
          have q2 := (cell_of_row _ _ 2 _ _ _ hS7.1).trans rfl
          have hf2 := frozen_of_row _ _ 2 _ _ hS7.1
          refine wpAnyL_ready (rs := [7]) (by kernel_rfl) (by simp) ?_
          refine AllReadyL.last rfl (fun K hK => ?_)
          go_simp
          refine hK.out _ _ ?_
          clear hK K
          try simp only [List.setIfInBounds_toArray, List.set_cons_zero, List.set_cons_succ]
          refine wpAny_done (by kernel_rfl) ?_ _
          have hX6 := heap_setCell_same w7 (w.heap.size + 1) 2 _ 24 (.slice a7 17 c7) hS7.1
          have hR6 := (Below.heap_setCell w7 ⟨w.heap.size + 1, 2, none⟩ (.slice a7 17 c7) w.heap.size (by simp)).trans hS7.2
          have HO9 : Hid (OwL (w7.setCell ⟨w.heap.size + 1, 2, none⟩ (.slice a7 17 c7)) (f + 1) (w.heap.size + 2) w7.heap.size (.slice a7 17 c7) (refs f L 16 ++ [Tr.itB (Tr.valOf L)])) := by
            have h := own_frame (E := 24) (w := w7) (w' := w7.setCell ⟨w.heap.size + 1, 2, none⟩ (.slice a7 17 c7)) _ _ _ _ _ (fun k hk _ => Below.heap_setCell _ _ _ _ (by simp; omega)) (ow_list HO7.out)
            obtain ⟨sl, hv, hl⟩ := h
            simp only [Value.agg.injEq] at hv
            have : sl = .slice a7 17 c7 := by
              have := congrArg (fun z : Array Value => z[2]?) hv
              simpa using this.symm
            subst this
            exact hl
          have HB9 : Hid (Below w.heap.size w (w7.setCell ⟨w.heap.size + 1, 2, none⟩ (.slice a7 17 c7))) := HB7.out.setCell (p := ⟨w.heap.size + 1, 2, none⟩) (Nat.le_succ _) _
          have HZ9 : Hid ((w7.setCell ⟨w.heap.size + 1, 2, none⟩ (.slice a7 17 c7)).heap.size = w7.heap.size) := by simp [Hid, World.setCell]
          generalize w7.setCell ⟨w.heap.size + 1, 2, none⟩ (.slice a7 17 c7) = w9 at *
          have x0 := (cell_of_row _ _ 0 _ _ _ hX6).trans rfl
          have x1 := (cell_of_row _ _ 1 _ _ _ hX6).trans rfl
          have x2 := (cell_of_row _ _ 2 _ _ _ hX6).trans rfl
          have r0 := (cell_of_row _ _ 0 _ _ _ hR6).trans rfl
          have r1 := (cell_of_row _ _ 1 _ _ _ hR6).trans rfl
          have r2 := (cell_of_row _ _ 2 _ _ _ hR6).trans rfl
          have g0 := frozen_of_row _ _ 0 _ _ hR6
          have g1 := frozen_of_row _ _ 1 _ _ hR6
          have g2 := frozen_of_row _ _ 2 _ _ hR6
          clear q2 hf2 hS7 hS6 hS
          go_wp2_with fail
          obtain ⟨z0, z1, z2⟩ := set3 hR6 (.bool true) (.string ⟨#[]⟩) (.slice a7 17 c7)
          refine bodyPost_ret (v := .agg #[.bool true, .string ⟨#[]⟩, .slice a7 17 c7]) (by simp [results, Try.results55, go_sem, z0, z1, z2]) rfl ⟨_, rfl, ?_, three_below HB9.out (Nat.le_refl _) _ _ _⟩
          have hsz : (((w9.setCell ⟨w.heap.size, 0, none⟩ (.bool true)).setCell ⟨w.heap.size, 1, none⟩ (.string ⟨#[]⟩)).setCell ⟨w.heap.size, 2, none⟩ (.slice a7 17 c7)).heap.size = w9.heap.size := by simp [World.setCell]
          rw [hsz]
          have ho := own_widen (ow_list HO9.out) (lo' := w.heap.size + 1) (hi' := w9.heap.size) (by omega) (Nat.le_of_eq HZ9.out.symm)
          exact own_widen (own_frame _ _ _ _ _ (fun k hk _ => by rw [setCell_block _ _ _ _ (by show k ≠ w.heap.size; omega), setCell_block _ _ _ _ (by show k ≠ w.heap.size; omega), setCell_block _ _ _ _ (by show k ≠ w.heap.size; omega)]) ho) (Nat.le_succ _) (Nat.le_refl _)
end Go.Proofs.Ytbmohenjphmlgaa

/- node and reference (of the document's own answer) answer as the document says. -/
namespace Go.Proofs.Ytbmohenjphmlgaa
open Go.RowKit
set_option maxRecDepth 100000

theorem nodeAt_all : ∀ f, f ≤ 100 → NodeAt f := by
  intro f
  induction f with
  | zero =>
    intro _ l a cap w hr hfit hap hl
    have : l = [] := by
      cases l with
      | nil => rfl
      | cons e l => have := (hfit e (List.mem_cons_self ..)).1; omega
    subst this
    exact nodeR_empty a cap 0 w
  | succ f ih =>
    intro hf l a cap w hr hfit hap hl
    have hR := refR_any (f := f) (by omega) (ih (by omega))
    rcases Tr.list_cases l with rfl | ⟨e, rfl⟩ | ⟨x0, x1, r, rfl⟩
    · exact nodeR_empty a cap (f + 1) w
    · have h := hfit e (List.mem_cons_self ..)
      exact nodeR_leaf a cap f e w hr h.2.1 (by have := h.1; omega)
    · by_cases hs : Tr.shared (x0 :: x1 :: r) = []
      · exact nodeR_branch hR x0 x1 r a cap w hr hfit (by omega) hap hl hs
      · exact nodeR_ext hR x0 x1 r a cap w hr hfit (by omega) hap hl hs
end Go.Proofs.Ytbmohenjphmlgaa

/- The walk of table (of the document's own answer): the pairs that count, or what is wrong. -/
namespace Go.Proofs.Ytbmohenjphmlgaa
open Go.RowKit
set_option maxRecDepth 100000

theorem brdX_of_bown {g : Option Nat} {w : World} {base : Nat} {v : Value} {l : List UInt8} (h : Bown w base v l) (hg : ∀ b, g = some b → b < base) : BrdX g w.heap.size w v l := by
  have hlt := bown_lt h
  rcases brdC_of_bown h with h0 | ⟨b, off, cap, hv, hcap, hb, hcell⟩
  · exact .inl h0
  · refine .inr ⟨b, off, cap, hv, hcap, hb, fun e => ?_, hcell⟩
    have h1 := hg b e
    rcases h.2 with ⟨hv', _⟩ | ⟨g', cap', cur, hv', hbg, _⟩
    · rw [hv'] at hv; cases hv
    · rw [hv'] at hv
      simp only [Value.slice.injEq, Option.some.injEq, Addr.mk.injEq] at hv
      omega

/-- What table tells. -/
def TabPost (l : List (ByteArray × ByteArray)) (w : World) (e : Ending) (w' : World) : Prop := Below w.heap.size w w' ∧
  (tfault l ⟨#[]⟩ ≠ 0 → e = .returned (.tuple #[.slice none 0 0, .int .i64 (tfault l ⟨#[]⟩ : Nat)])) ∧
  (tfault l ⟨#[]⟩ = 0 → ∃ a' cap', e = .returned (.tuple #[.slice a' (Tr.table (lists l)).length cap', .int .i64 0]) ∧ ERd w'.heap.size w' a' (Tr.table (lists l)))

theorem tabPost_bad {l : List (ByteArray × ByteArray)} {w w' : World} {n : Nat} (h : tfault l ⟨#[]⟩ = n) (hn : n ≠ 0) (hb : Below w.heap.size w w') : TabPost l w (.returned (.tuple #[.slice none 0 0, .int .i64 (n : Int)])) w' :=
  ⟨hb, fun _ => by rw [h], fun h0 => absurd (h.symm.trans h0) hn⟩

/-- Is the k-th key none of those behind it, up to the m-th? -/
def lastTo (l : List (ByteArray × ByteArray)) (key : ByteArray) (k m : Nat) : Bool := decide (∀ j, (hj : j < l.length) → k < j → j < m → l[j].1 ≠ key)

theorem lastTo_start (l : List (ByteArray × ByteArray)) (key : ByteArray) (k : Nat) : lastTo l key k (k + 1) = true := decide_eq_true fun j _ h1 h2 => by omega

theorem lastTo_succ (l : List (ByteArray × ByteArray)) (key : ByteArray) (k m : Nat) (hm : m < l.length) (hk : k < m) : lastTo l key k (m + 1) = (lastTo l key k m && decide (l[m].1 ≠ key)) := by
  unfold lastTo
  rw [← Bool.decide_and]
  refine decide_eq_decide.2 ⟨fun h => ⟨fun j hj h1 h2 => h j hj h1 (by omega), h m hm hk (by omega)⟩, fun h j hj h1 h2 => ?_⟩
  by_cases hjm : j = m
  · subst hjm; exact h.2
  · exact h.1 j hj h1 (by omega)

theorem baR_ext {a b : ByteArray} (h : a.data.toList = b.data.toList) : a = b := by cases a; cases b; simp_all

theorem lastTo_counts (l : List (ByteArray × ByteArray)) (k : Nat) (hk : k < l.length) : counts l l[k] k ↔ lastTo l l[k].1 k l.length = true ∧ l[k].2.data.toList ≠ [] := by
  unfold counts lastTo
  rw [decide_eq_true_eq]
  refine and_congr_left fun _ => ⟨fun h j hj h1 _ he => h ?_, fun h hin => ?_⟩
  · refine List.mem_map.2 ⟨l[j], ?_, by rw [he]⟩
    rw [List.mem_iff_getElem]
    refine ⟨j - (k + 1), by rw [List.length_drop]; omega, ?_⟩
    rw [List.getElem_drop]
    congr 1
    omega
  · obtain ⟨q, hq, hqk⟩ := List.mem_map.1 hin
    obtain ⟨j, hj, rfl⟩ := List.getElem_of_mem hq
    rw [List.length_drop] at hj
    rw [List.getElem_drop] at hqk
    exact h (k + 1 + j) (by omega) (by omega) (by omega) (baR_ext hqk)

theorem tabTo_len (l : List (ByteArray × ByteArray)) (k : Nat) : (tabTo l k).length ≤ k := by
  unfold tabTo
  exact Nat.le_trans (List.length_filterMap_le _ _) (by simp)

theorem tfault_key' {l : List (ByteArray × ByteArray)} (h : ¬ 60 < l.length) (k : Nat) (hk : k < l.length) (h2 : 6 < l[k].1.size) : tfault l ⟨#[]⟩ = 3 := tfault_key h (.inl ⟨_, List.getElem_mem hk, h2⟩)

set_option maxHeartbeats 12800000 in
theorem tableR_any (a : Option Addr) (cap : Nat) (l : List (ByteArray × ByteArray)) (w : World) (hr : PRd w.heap.size w a l) (hl : l.length ≤ 4398046511104) : Calls Try.prog 54 #[.slice a l.length cap] w (TabPost l w) := by
  have HR := hid hr
  clear hr
  by_cases h60 : 60 < l.length
  · have HT := hid (tfault_many (key := ⟨#[]⟩) h60)
    have i0 : (60 : Int) < (l.length : Int) := by omega
    go_enter Try.func54, Try.ntmps54
    go_wp2_with fail
    go_ret2
    exact tabPost_bad HT.out (by decide) (Below.refl _ _)
  have i0 : ¬ (60 : Int) < (l.length : Int) := by omega
  have H60 := hid h60
  go_enter Try.func54, Try.ntmps54
  go_wp2_with fail
  go_loopw [4] (fun i wr => ∃ k : Nat, i = .int .i64 k ∧ k ≤ l.length ∧ wr = w ∧ Hid (∀ j (hj : j < l.length), j < k → ¬ 6 < l[j].1.size)) (fun i _ => l.length - (intOf i).toNat)
  case atStart => exact ⟨0, rfl, Nat.zero_le _, rfl, fun j _ h => by omega⟩
  case round =>
    obtain ⟨k, rfl, hk, rfl, HK⟩ := hrel
    by_cases hlt : k < l.length
    · obtain ⟨b, off, rfl, hb, e0, e1⟩ := HR.out k hlt
      have i1 : (0 : Int) ≤ (k : Int) := by omega
      have i2 : (k : Int) < (l.length : Int) := by omega
      by_cases h6 : 6 < l[k].1.size
      · have HT := hid (tfault_key' H60.out k hlt h6)
        have i3 : (6 : Int) < (l[k].1.size : Int) := by omega
        go_wp2_with fail
        go_ret2
        exact tabPost_bad HT.out (by decide) (Below.refl _ _)
      · have i3 : ¬ (6 : Int) < (l[k].1.size : Int) := by omega
        have HK2 : Hid (∀ j (hj : j < l.length), j < k + 1 → ¬ 6 < l[j].1.size) := by
          intro j hj hjk
          by_cases h : j < k
          · exact HK.out j hj h
          · obtain rfl : j = k := by omega
            exact h6
        go_wp2_with fail
        exact ⟨⟨k + 1, by go_num, by omega, trivial, HK2.out⟩, by simp [intOf]; omega⟩
    · have i2 : ¬ (k : Int) < (l.length : Int) := by omega
      have HKEY : Hid (∀ p ∈ l, ¬ 6 < p.1.size) := by
        intro p hp
        obtain ⟨j, hj, rfl⟩ := List.getElem_of_mem hp
        exact HK.out j hj (by omega)
      clear HK
      generalize wr = w at *
      go_wp2_with fail
      go_loopw [5, 6] (fun v i wr => ∃ (k : Nat) (ps : List (Value × ByteArray)), i = .int .i64 k ∧ k ≤ l.length ∧ Hid ((∀ j (hj : j < l.length), j < k → ¬ 40 < l[j].2.size) ∧ EOwn wr w.heap.size v ps ∧ EntsOf v.ownBlock wr.heap.size wr ps (ents (tabTo l k)) ∧ Below w.heap.size w wr)) (fun _ i _ => l.length - (intOf i).toNat)
      case atStart => exact ⟨0, [], rfl, Nat.zero_le _, fun j _ h => (by omega), eown_nil _ _, entsR_nil _ _ _, Below.refl _ _⟩
      case round =>
        obtain ⟨k, ps, rfl, hk, HH⟩ := hrel
        obtain ⟨av, cv, hv, _⟩ := eown_shape HH.out.2.1
        subst hv
        by_cases hlt : k < l.length
        · obtain ⟨b, off, rfl, hb, e0, e1⟩ := HR.out k hlt
          have i1 : (0 : Int) ≤ (k : Int) := by omega
          have i2 : (k : Int) < (l.length : Int) := by omega
          have f1 := (HH.out.2.2.2.cell (p := ⟨b, off + k * 2 + 1, none⟩) hb).trans e1
          have hbw : b < wr.heap.size := Nat.lt_of_lt_of_le hb HH.out.2.2.2.size
          by_cases h40 : 40 < l[k].2.size
          · have HT := hid (tfault_value (key := ⟨#[]⟩) H60.out HKEY.out (by decide) ⟨_, List.getElem_mem hlt, h40⟩)
            have i3 : (40 : Int) < (l[k].2.size : Int) := by omega
            go_wp2_with fail
            go_ret2
            exact tabPost_bad HT.out (by decide) HH.out.2.2.2
          · have i3 : ¬ (40 : Int) < (l[k].2.size : Int) := by omega
            have HV2 : Hid (∀ j (hj : j < l.length), j < k + 1 → ¬ 40 < l[j].2.size) := by
              intro j hj hjk
              by_cases h : j < k
              · exact HH.out.1 j hj h
              · obtain rfl : j = k := by omega
                exact h40
            have HE0 := hid e0
            have HE1 := hid e1
            have HSTA := hid (lastTo_start l l[k].1 k)
            have hk6 := HKEY.out _ (List.getElem_mem hlt)
            have HCO := hid (lastTo_counts l k hlt)
            have HTS := hid (tabTo_succ hlt)
            clear e0 e1
            go_wp2_with fail
            go_loopw [7, 8] (fun la j wi => ∃ m : Nat, la = .bool (lastTo l l[k].1 k m) ∧ j = .int .i64 m ∧ k + 1 ≤ m ∧ m ≤ l.length ∧ Hid (EOwn wi w.heap.size (.slice av ps.length cv) ps ∧ EntsOf (Value.slice av ps.length cv).ownBlock wi.heap.size wi ps (ents (tabTo l k)) ∧ Below w.heap.size w wi)) (fun _ j _ => l.length - (intOf j).toNat)
            case atStart => exact ⟨k + 1, by rw [HSTA.out], by go_num, Nat.le_refl _, by omega, HH.out.2⟩
            case round =>
              obtain ⟨m, rfl, rfl, hm1, hm2, HI⟩ := hrel
              clear f1 hbw
              have z0 := (HI.out.2.2.cell (p := ⟨b, off + k * 2, none⟩) hb).trans HE0.out
              have z1 := (HI.out.2.2.cell (p := ⟨b, off + k * 2 + 1, none⟩) hb).trans HE1.out
              have hbw : b < wr.heap.size := Nat.lt_of_lt_of_le hb HI.out.2.2.size
              by_cases hlt2 : m < l.length
              · obtain ⟨b', off', hab, hbm, g0, _⟩ := HR.out m hlt2
                simp only [Option.some.injEq, Addr.mk.injEq, and_true] at hab
                obtain ⟨rfl, rfl⟩ := hab
                have y0 := (HI.out.2.2.cell (p := ⟨b, off + m * 2, none⟩) hb).trans g0
                have j1 : (0 : Int) ≤ (m : Int) := by omega
                have j2 : (m : Int) < (l.length : Int) := by omega
                have HSU := hid (lastTo_succ l l[k].1 k m hlt2 (by omega))
                clear g0
                cases hla : lastTo l l[k].1 k m with
                | false =>
                  have HT : Hid (lastTo l l[k].1 k (m + 1) = false) := by rw [Hid, HSU.out, hla]; rfl
                  clear hla HSU
                  go_wp2_with fail
                  go_quiet (fail)
                  go_wp2_with fail
                  exact ⟨⟨m + 1, by rw [HT.out], by go_num, by omega, by omega, HI.out.1, HI.out.2.1, below_drewN HI.out.2.2 _⟩, by simp [intOf]; omega⟩
                | true =>
                  by_cases heq : l[m].1 = l[k].1
                  · have HT : Hid (lastTo l l[k].1 k (m + 1) = false) := by rw [Hid, HSU.out, hla, heq]; simp
                    have hbq : (l[m].1.toList == l[k].1.toList) = true := by rw [heq]; exact beq_self_eq_true _
                    clear hla HSU heq
                    go_wp2_with fail
                    go_quiet (fail)
                    go_wp2_with fail
                    exact ⟨⟨m + 1, by rw [HT.out], by go_num, by omega, by omega, HI.out.1, HI.out.2.1, below_drewN HI.out.2.2 _⟩, by simp [intOf]; omega⟩
                  · have HT : Hid (lastTo l l[k].1 k (m + 1) = true) := by rw [Hid, HSU.out, hla, decide_eq_true heq]; rfl
                    have hbq : (l[m].1.toList == l[k].1.toList) = false := by
                      rw [beq_eq_false_iff_ne, ByteArray.toList_eq, ByteArray.toList_eq]
                      exact fun h => heq (baR_ext h)
                    clear hla HSU heq
                    go_wp2_with fail
                    go_quiet (fail)
                    go_wp2_with fail
                    exact ⟨⟨m + 1, by rw [HT.out], by go_num, by omega, by omega, HI.out.1, HI.out.2.1, below_drewN HI.out.2.2 _⟩, by simp [intOf]; omega⟩
              · obtain rfl : m = l.length := by omega
                have j2 : ¬ (l.length : Int) < (l.length : Int) := by omega
                clear hlt2 hm1 hm2 HSTA
                have HSKIP : Hid (¬ counts l l[k] k → EntsOf (Value.slice av ps.length cv).ownBlock wr.heap.size wr ps (ents (tabTo l (k + 1)))) := by
                  intro hc
                  rw [HTS.out, if_neg hc, List.append_nil]
                  exact HI.out.2.1
                by_cases hv0 : l[k].2.data.toList = []
                · have HC := hid (HSKIP.out (fun h => h.2 hv0))
                  have hve : l[k].2.toList.isEmpty = true := by rw [ByteArray.toList_eq, hv0]; rfl
                  clear HSKIP HCO hv0
                  cases hla : lastTo l l[k].1 k l.length
                  all_goals
                    clear hla
                    go_wp2_with fail
                    exact ⟨⟨k + 1, ps, by go_num, by omega, HV2.out, HI.out.1, HC.out, HI.out.2.2⟩, by simp [intOf]; omega⟩
                · have hve : l[k].2.toList.isEmpty = false := by
                    rw [ByteArray.toList_eq]
                    cases hx : l[k].2.data.toList with
                    | nil => exact absurd hx hv0
                    | cons c r => rfl
                  cases hla : lastTo l l[k].1 k l.length with
                  | false =>
                    have HC := hid (HSKIP.out (fun h => by have := (HCO.out.1 h).1; rw [hla] at this; cases this))
                    clear hla HSKIP HCO hv0
                    go_wp2_with fail
                    exact ⟨⟨k + 1, ps, by go_num, by omega, HV2.out, HI.out.1, HC.out, HI.out.2.2⟩, by simp [intOf]; omega⟩
                  | true =>
                    have HC := hid (HCO.out.2 ⟨hla, hv0⟩)
                    have HDG := hid (fun w => digits_any l[k].1 w (by omega))
                    have HTB : Hid (ents (tabTo l (k + 1)) = ents (tabTo l k) ++ [⟨Tr.digits l[k].1.data.toList, l[k].2.data.toList⟩]) := by
                      rw [Hid, HTS.out, if_pos HC.out]
                      unfold ents
                      rw [List.map_append]
                      rfl
                    have HLP : Hid (ps.length ≤ 1000000) := by
                      rw [Hid, HI.out.2.1.1]
                      unfold ents
                      rw [List.length_map]
                      have := tabTo_len l k
                      omega
                    have hws : w.heap.size ≤ wr.heap.size := HI.out.2.2.size
                    clear hla HSKIP HCO hv0 HTS
                    obtain ⟨K0, hK0⟩ : ∃ K0, K0 = l[k].1 := ⟨_, rfl⟩
                    obtain ⟨V, hV⟩ : ∃ V, V = l[k].2 := ⟨_, rfl⟩
                    rw [← hK0] at HDG HTB z0
                    rw [← hV] at HTB z1 hve
                    rw [← hV]
                    clear hK0 hV
                    go_wp2_with fail
                    go_region_held3 (fun w' => w'.cell? ⟨b, off + k * 2, none⟩ = some (.string K0) ∧ w'.cell? ⟨b, off + k * 2 + 1, none⟩ = some (.string V)) (go_keep)
                      ((first
                        | (go_at_call 58; refine (HDG.out _).mono ?_; rintro e' w3 ⟨ad, cd, rfl, bo3, b3⟩; have HB3 : Hid (Below wr.heap.size wr w3) := below_undrew b3; have HBO3 := hid bo3; have HO3 := hid (eown_later HI.out.1 HB3.out); have hw3 : w.heap.size ≤ w3.heap.size := Nat.le_trans hws HB3.out.size; have y0 := (HB3.out.cell (p := ⟨b, off + k * 2, none⟩) hbw).trans z0; have y1 := (HB3.out.cell (p := ⟨b, off + k * 2 + 1, none⟩) hbw).trans z1; clear bo3 b3)
                        | (refine step_push_ent (wr := w3) rfl (.tmp 69) (.tmp 82) rfl (.slice ad (Tr.digits K0.data.toList).length cd) V rfl w3.heap.size rfl rfl rfl HO3.out hw3 HLP.out ?_; intro v' w' ho' hb' hk' hn' hz'; have HO' := hid ho'; have HB' := hid hb'; have HK' := hid (And.intro hk' (And.intro hn' hz')); have y2 := (hb'.cell (p := ⟨b, off + k * 2, none⟩) hb).trans y0; have y3 := (hb'.cell (p := ⟨b, off + k * 2 + 1, none⟩) hb).trans y1; clear ho' hb' hk' hn' hz')))
                    all_goals go_wp2_with fail
                    all_goals
                      have hown := eown_lt HI.out.1
                      have hbx := brdX_of_bown (g := (Value.slice av ps.length cv).ownBlock) HBO3.out (fun x hx => (hown x hx).2)
                      have hen := ents_turn (g' := (Value.slice av ps.length cv).ownBlock) (w' := w3) HI.out.2.1 HB3.out.size (fun x hx => .inl hx) (fun x hx _ => HB3.out.block x hx)
                      refine ⟨⟨k + 1, _, by go_num, by omega, HV2.out, HO'.out, ?_, HI.out.2.2.trans ((HB3.out.mono hws).trans HB'.out)⟩, by simp [intOf]; omega⟩
                      rw [HTB.out]
                      exact ents_turn (ents_snoc hen rfl hbx) HK'.out.2.2 HK'.out.2.1 HK'.out.1
        · obtain rfl : k = l.length := by omega
          have i2 : ¬ (l.length : Int) < (l.length : Int) := by omega
          have HE := hid HH.out.2.2.1
          rw [tabTo_table] at HE
          have HT : Hid (tfault l ⟨#[]⟩ = 0) := tfault_ok H60.out HKEY.out (by decide) (fun p hp => by
            obtain ⟨j, hj, rfl⟩ := List.getElem_of_mem hp
            exact HH.out.1 j hj hj)
          have HPL : Hid (ps.length = (Tr.table (lists l)).length) := HE.out.1
          have HO := hid HH.out.2.1
          have HB := hid HH.out.2.2.2
          clear HH hlt
          go_wp2_with fail
          go_ret2
          exact ⟨HB.out, fun h => absurd HT.out h, fun _ => ⟨av, cv, by rw [← HPL.out]; rfl, erd_of HO.out HE.out (Nat.le_refl _)⟩⟩
end Go.Proofs.Ytbmohenjphmlgaa
