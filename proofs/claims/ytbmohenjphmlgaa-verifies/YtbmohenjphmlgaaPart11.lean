/- Part 11 of a proof: what the last text needs. -/
import Derived.Test.YtbmohenjphmlgaaPart10
import Derived.Test.YtbmohenjphmlgaaPart6
/- The walk of 'item', continued: a list of items, and all of it. -/
namespace Go.Proofs.Ytbmohenjphmlgaa
open Go.RowKit
set_option maxRecDepth 100000

/-- An append of one item to a list of the call's own: for a walk. -/
theorem wpList_append_one {ops : Array Oper} {rest : List Oper} {o : Oper} {act : Act} {Q : Exit → Act → World → Prop} (hgd : o.guard = none) (s x : Operand)
    (hop : o.op = .call { callee := .builtin .append, args := #[s, x], argTypes := #[22, 22] })
    {w0 w3 : World} {f lo hi lo1 hi1 g : Nat} {u a b c : Value} {done : List Itm} {y : Itm} (hs : act.eval s = u) (hx : act.eval x = .slice (some ⟨g, 0, none⟩) 1 1) (hg : g = w3.heap.size)
    (hown : OwL w0 f lo hi u done) (hb : Below hi w0 w3) (hy : Ow w3 f lo1 hi1 (.agg #[a, b, c]) y) (h1 : hi ≤ lo1) (h2 : lo ≤ lo1) (h3 : hi1 ≤ w3.heap.size) (h4 : hi ≤ w3.heap.size) (h5 : lo ≤ w3.heap.size)
    (hone : a.oneCell' = true ∧ b.oneCell' = true ∧ c.oneCell' = true) (hn : done.length ≤ 1000000)
    (h : ∀ v' w', OwL w' f lo w'.heap.size v' (done ++ [y]) → Below lo w3 w' → wpList Try.prog ops Q rest (act.put o.dst v') w') :
    wpList Try.prog ops Q (o :: rest) act (w3.alloc (.cells #[a, b, c] 24)) := by
  subst hg
  obtain ⟨i0, hi0, hz0, hz1, hz2⟩ := info_parts infoItem
  obtain ⟨xs, ho, hgl, L, H, hL, hLH⟩ := hown
  have hbW : Below w3.heap.size w3 (w3.alloc (.cells #[a, b, c] 24)) := (Below.refl _ _).alloc (Nat.le_refl _) _
  have hfr : ∀ k, k < hi → (w3.alloc (.cells #[a, b, c] 24)).heap[k]? = w0.heap[k]? := fun k hk => by rw [hbW.block k (by omega)]; exact hb.block k hk
  refine wpList_append_mine _ hgd s x 22 hop lo 24 i0 _ 3 48 Try.underlying22 hi0 hz0 hz1 hz2 rfl (by decide) u done.length xs hs ?_ ⟨w3.heap.size, 0, none⟩ 1 1 [a, b, c] hx rfl ?_ ?_ ?_ ?_ ?_ ?_
  · exact owns_frame ho (fun g hg => hfr g (hgl g hg))
  · exact cells_three w3 a b c 24
  · intro u hu
    simp only [List.mem_cons, List.not_mem_nil, or_false] at hu
    rcases hu with rfl | rfl | rfl
    · exact hone.1
    · exact hone.2.1
    · exact hone.2.2
  · unfold maxLen; omega
  · omega
  · simp; omega
  · intro v' w' ho2 hgr hnew
    refine h v' w' ?_ ?_
    · refine ownL_push ho hgl L H hL hLH (hb.trans (hbW.mono h4)) (own_frame _ _ _ _ _ (fun k _ hk => hbW.block k (by omega)) hy) h1 h2 (by simp; omega) ho2 hgr hnew (by simp; omega)
    · exact (hbW.mono h5).grown hgr (by simp; omega) (fun k hk => (ho.lt k hk).1)

def ItemRel (d : Nat) (s : ByteArray) (w wr : World) (r : ByteArray) (m : Nat) (a : Option Addr) (cap : Nat) (done : List Itm) : Prop :=
  wr.heap[w.heap.size + 1]? = some (.cells #[.bool true, .string ⟨#[]⟩, .slice a done.length cap] 24 (0, 0)) ∧ OwL wr (d + 1) (w.heap.size + 2) wr.heap.size (.slice a done.length cap) done ∧
  Below (w.alloc (.cells #[.bool false, .string ⟨#[]⟩, .slice none 0 0] 24)).heap.size (w.alloc (.cells #[.bool false, .string ⟨#[]⟩, .slice none 0 0] 24)) wr ∧ w.heap.size + 2 ≤ wr.heap.size ∧
  done.all Itm.pure = true ∧ (∀ x ∈ done, Itm.deep x ≤ d) ∧ r.size + 1 ≤ s.size ∧ (done.flatMap Itm.enc).length ≤ 68 * (s.size - 1 - r.size) + done.length ∧ done.length + m ≤ 4

theorem item_start (d : Nat) (s : ByteArray) (w : World) (N : Nat) (h1 : 0 < s.size) (hN : N ≤ 4) :
    ItemRel d s w ((w.alloc (.cells #[.bool false, .string ⟨#[]⟩, .slice none 0 0] 24)).alloc (.cells #[.bool true, .string ⟨#[]⟩, .slice none 0 0] 24)) (s.extract 1 s.size) N none 0 [] := by
  refine ⟨?_, ownL_nil _ _ _ _ _, (Below.refl _ _).alloc (Nat.le_refl _) _, by simp, by simp, by simp, ?_, ?_, by simpa using hN⟩
  · have := heap_alloc_new (w.alloc (.cells #[.bool false, .string ⟨#[]⟩, .slice none 0 0] 24)) (.cells #[.bool true, .string ⟨#[]⟩, .slice none 0 0] 24)
    simpa using this
  · simp; omega
  · simp

theorem item_step {d : Nat} {s : ByteArray} {w wr w3 w' : World} {r r2 : ByteArray} {m : Nat} {a a9 : Option Addr} {cap c9 : Nat} {done : List Itm} {t : Itm} (HH : ItemRel d s w wr r m a cap done) (hm : 0 < m)
    (p1 : r2.size ≤ r.size) (p2 : Itm.pure t = true) (p3 : Itm.deep t ≤ d) (p4 : (Itm.enc t).length ≤ 68 * (r.size - r2.size) + 1)
    (hown : OwL w' (d + 1) (w.heap.size + 2) w'.heap.size (.slice a9 (done ++ [t]).length c9) (done ++ [t])) (hb3 : Below wr.heap.size wr w3) (hb : Below (w.heap.size + 2) w3 w')
    (hblk : w'.heap[w.heap.size + 1]? = some (.cells #[.bool true, .string ⟨#[]⟩, .slice a done.length cap] 24 (0, 0))) :
    ItemRel d s w (w'.setCell ⟨w.heap.size + 1, 2, none⟩ (.slice a9 (done.length + 1) c9)) r2 (m - 1) a9 c9 (done ++ [t]) := by
  obtain ⟨q1, q2, q3, q4, q5, q6, q7, q8, q9⟩ := HH
  have hl : (done ++ [t]).length = done.length + 1 := by simp
  have hs3 := hb3.size
  have hs4 := hb.size
  refine ⟨?_, ?_, ?_, ?_, ?_, ?_, by omega, ?_, by rw [hl]; omega⟩
  · rw [heap_setCell_same _ _ 2 _ _ _ hblk, hl]; rfl
  · have e : (w'.setCell ⟨w.heap.size + 1, 2, none⟩ (.slice a9 (done.length + 1) c9)).heap.size = w'.heap.size := by simp [World.setCell]
    rw [e]
    refine ownL_mono hown (fun g hg => ?_) (fun lo hi v x h1 h2 _ hp => own_frame _ _ _ _ _ (fun k hk _ => Below.heap_setCell _ _ _ _ (by simp; omega)) hp)
    obtain ⟨xs, ho, _⟩ := hown
    have := (ho.lt g hg).1
    exact Below.heap_setCell _ _ _ _ (by simp; omega)
  · exact ((q3.trans (hb3.mono (by simp; omega))).trans (hb.mono (by simp))).setCell (p := ⟨w.heap.size + 1, 2, none⟩) (by simp) _
  · have e : (w'.setCell ⟨w.heap.size + 1, 2, none⟩ (.slice a9 (done.length + 1) c9)).heap.size = w'.heap.size := by simp [World.setCell]
    rw [e]; omega
  · rw [List.all_append, q5]; simp [p2]
  · intro x hx
    rcases List.mem_append.1 hx with hx | hx
    · exact q6 x hx
    · simp only [List.mem_singleton] at hx; subst hx; exact p3
  · rw [List.flatMap_append, List.length_append, hl]
    simp only [List.flatMap_cons, List.flatMap_nil, List.append_nil]
    omega

theorem item_end {d : Nat} {s : ByteArray} {w wr : World} {r : ByteArray} {m : Nat} {a : Option Addr} {cap : Nat} {done : List Itm} (HH : ItemRel d s w wr r m a cap done) (hs : s.size ≤ 12) :
    r.size ≤ s.size ∧ Itm.pure ⟨true, [], done⟩ = true ∧ Itm.deep ⟨true, [], done⟩ ≤ d + 1 ∧ (Itm.enc ⟨true, [], done⟩).length ≤ 68 * (s.size - r.size) + 1 := by
  obtain ⟨q1, q2, q3, q4, q5, q6, q7, q8, q9⟩ := HH
  refine ⟨by omega, ?_, ?_, ?_⟩
  · rw [Itm.pure_eq]; simpa using q5
  · rw [Itm.deep_eq]
    simp only [if_true]
    have : Itm.top (done.map Itm.deep) ≤ d := Itm.top_le (by
      intro x hx
      simp only [List.mem_map] at hx
      obtain ⟨y, hy, rfl⟩ := hx
      exact q6 y hy)
    omega
  · rw [Itm.enc_eq]
    simp only [if_true]
    unfold Itm.headed
    rw [List.length_append]
    have := Itm.head_len 192 (done.flatMap Itm.enc).length (by omega)
    omega

set_option maxHeartbeats 1600000 in
theorem item_list (d : Nat) (ih : ∀ (s : ByteArray) (w : World), s.size ≤ 12 → Calls Try.prog 35 #[.string s, .int .i64 d] w (ItemOk d s w)) (s : ByteArray) (w : World) (hs : s.size ≤ 12) (hb : s.toList.isEmpty = false) (h1 : 0 < s.size) (h : 160 ≤ s[0].toNat) (hd : d ≤ 4) :
    Calls Try.prog 35 #[.string s, .int .i64 ((d : Int) + 1)] w (ItemOk (d + 1) s w) := by
  have h8 := s[0].toNat_lt
  have h3 : ¬ (s[0].toNat : Int) < 160 := by omega
  have hd0 : ((d : Int) + 1 == 0) = false := by simp; omega
  have IH := hid ih
  clear ih
  obtain ⟨N, HN⟩ : ∃ N : Nat, Hid ((s[0].toNat : Int) % 5 = (N : Int)) := ⟨s[0].toNat % 5, by show _ = _; omega⟩
  have hN4 : N ≤ 4 := by have := HN.out; omega
  go_enter Try.func35, Try.ntmps35
  go_wp2_with fail
  rw [HN.out]
  go_loopw [0, 11] (fun raw n wr => ∃ (r : ByteArray) (m : Nat) (a : Option Addr) (cap : Nat) (done : List Itm), raw = .string r ∧ n = .int .i64 m ∧ m ≤ 4 ∧ Hid (ItemRel d s w wr r m a cap done)) (fun _ n _ => (intOf n).toNat)
  case atStart => exact ⟨_, N, none, 0, [], rfl, rfl, hN4, item_start d s w N h1 hN4⟩
  case round =>
    obtain ⟨r, m, a, cap, done, rfl, rfl, hm, HH⟩ := hrel
    by_cases hm0 : 0 < m
    · have hm0' : (0 : Int) < (m : Int) := by omega
      obtain ⟨q1, q2, q3, q4, q5, q6, q7, q8, q9⟩ := HH.out
      have IHr := hid (fun w => IH.out r w (by omega))
      clear q1 q2 q3 q5 q6 q7 q8 q9
      go_wp2_with fail
      refine (IHr.out _).mono ?_
      rintro e w1 ⟨v, t, r2, rfl, p1, p2, p3, p4, p5, p6⟩
      obtain ⟨a2, cap2, rfl⟩ := ow_shape p5
      have HP := hid (And.intro p1 (And.intro p2 (And.intro p3 (And.intro p4 (And.intro p5 p6)))))
      obtain ⟨hcc, hff⟩ := bcell p6
      have hsz : wr.heap.size < w1.heap.size := by have := p6.size; simp at this; omega
      have hx2 : wr.cell? ⟨w.heap.size + 1, 2, none⟩ = some (.slice a done.length cap) := by
        rw [cell_of_row _ _ 2 _ _ _ HH.out.1]; rfl
      have hlt1 : w.heap.size + 1 < wr.heap.size := by omega
      have hlt2 : w.heap.size + 1 < wr.heap.size + 1 := by omega
      have hne1 : ¬ (w.heap.size + 1 = wr.heap.size) := by omega
      have hne2 : ¬ (wr.heap.size = w.heap.size + 1) := by omega
      clear p1 p2 p3 p4 p5 p6
      have HW : Hid (w1.heap.size = (((w1.setCell ⟨wr.heap.size, 0, none⟩ (.bool t.list)).setCell ⟨wr.heap.size, 1, none⟩ (.string ⟨t.bytes.toArray⟩)).setCell ⟨wr.heap.size, 2, none⟩ (.slice a2 t.items.length cap2)).heap.size) := (box_size _ _ _ _ _).symm
      have HB3 : Hid (Below wr.heap.size wr (((w1.setCell ⟨wr.heap.size, 0, none⟩ (.bool t.list)).setCell ⟨wr.heap.size, 1, none⟩ (.string ⟨t.bytes.toArray⟩)).setCell ⟨wr.heap.size, 2, none⟩ (.slice a2 t.items.length cap2))) := box_below HP.out.2.2.2.2.2 _ _ _
      have HY : Hid (Ow (((w1.setCell ⟨wr.heap.size, 0, none⟩ (.bool t.list)).setCell ⟨wr.heap.size, 1, none⟩ (.string ⟨t.bytes.toArray⟩)).setCell ⟨wr.heap.size, 2, none⟩ (.slice a2 t.items.length cap2)) (d + 1) (wr.heap.size + 1) w1.heap.size (.agg #[.bool t.list, .string ⟨t.bytes.toArray⟩, .slice a2 t.items.length cap2]) t) := by
        have := HP.out.2.2.2.2.1
        exact ow_box _ _ _ (by simpa using this)
      have HO1 : Hid (OwL wr (d + 1) (w.heap.size + 2) wr.heap.size (.slice a done.length cap) done) := HH.out.2.1
      have hdl : done.length ≤ 1000000 := by have := HH.out.2.2.2.2.2.2.2.2; omega
      have H4 : Hid (wr.heap.size ≤ (((w1.setCell ⟨wr.heap.size, 0, none⟩ (.bool t.list)).setCell ⟨wr.heap.size, 1, none⟩ (.string ⟨t.bytes.toArray⟩)).setCell ⟨wr.heap.size, 2, none⟩ (.slice a2 t.items.length cap2)).heap.size) := by rw [Hid, ← HW.out]; omega
      have H5 : Hid (w.heap.size + 2 ≤ (((w1.setCell ⟨wr.heap.size, 0, none⟩ (.bool t.list)).setCell ⟨wr.heap.size, 1, none⟩ (.string ⟨t.bytes.toArray⟩)).setCell ⟨wr.heap.size, 2, none⟩ (.slice a2 t.items.length cap2)).heap.size) := by rw [Hid, ← HW.out]; omega
      have H3 : Hid (w1.heap.size ≤ (((w1.setCell ⟨wr.heap.size, 0, none⟩ (.bool t.list)).setCell ⟨wr.heap.size, 1, none⟩ (.string ⟨t.bytes.toArray⟩)).setCell ⟨wr.heap.size, 2, none⟩ (.slice a2 t.items.length cap2)).heap.size) := by rw [Hid, ← HW.out]; omega
      have hh2 : w.heap.size + 2 ≤ wr.heap.size + 1 := by omega
      have HX9 : Hid (∀ w', Below (w.heap.size + 2) (((w1.setCell ⟨wr.heap.size, 0, none⟩ (.bool t.list)).setCell ⟨wr.heap.size, 1, none⟩ (.string ⟨t.bytes.toArray⟩)).setCell ⟨wr.heap.size, 2, none⟩ (.slice a2 t.items.length cap2)) w' → w'.heap[w.heap.size + 1]? = some (.cells #[.bool true, .string ⟨#[]⟩, .slice a done.length cap] 24 (0, 0))) := by
        intro w' hb'
        rw [hb'.block _ (by omega), HB3.out.block _ (by omega)]
        exact HH.out.1
      go_wp2_with (at_builtin; refine wpList_append_one rfl (.tmp 83) (.tmp 85) rfl rfl rfl HW.out HO1.out HB3.out HY.out (Nat.le_succ _) hh2 H3.out H4.out H5.out ⟨rfl, rfl, rfl⟩ hdl ?_; intro v' w' hown2 hbel2; obtain ⟨a9, c9, rfl⟩ := ownL_len hown2; have hx9 := cell_of_row _ _ 2 _ _ _ (HX9.out w' hbel2); have hf9 := frozen_of_row _ _ 2 _ _ (HX9.out w' hbel2))
      obtain ⟨p1, p2, p3, p4, p5, p6⟩ := HP.out
      refine ⟨⟨r2, m - 1, a9, c9, done ++ [t], rfl, congrArg (Value.int .i64) (by omega), by omega, item_step HH.out hm0 p1 p2 p3 p4 hown2 HB3.out hbel2 (HX9.out _ hbel2)⟩, by simp [intOf]; omega⟩
    · have hm0' : ¬ (0 : Int) < (m : Int) := by omega
      have HQ : Hid (Below (w.alloc (.cells #[.bool false, .string ⟨#[]⟩, .slice none 0 0] 24)).heap.size (w.alloc (.cells #[.bool false, .string ⟨#[]⟩, .slice none 0 0] 24)) wr) := HH.out.2.2.1
      have hx0 := cell_of_row _ _ 0 _ _ _ HH.out.1
      have hx1 := cell_of_row _ _ 1 _ _ _ HH.out.1
      have hx2 := cell_of_row _ _ 2 _ _ _ HH.out.1
      obtain ⟨hcc, hff⟩ := bcell HQ.out
      go_wp2_with fail
      obtain ⟨c0, c1, c2⟩ := set3 (old_block HQ.out) (.bool true) (.string ⟨#[]⟩) (.slice a done.length cap)
      obtain ⟨k1, k2, k3, k4⟩ := item_end HH.out hs
      refine bodyPost_ret (v := .tuple #[.agg #[.bool true, .string ⟨#[]⟩, .slice a done.length cap], .string r]) (by simp [results, Try.results35, go_sem, c0, c1, c2]) rfl ⟨_, ⟨true, [], done⟩, r, rfl, k1, k2, k3, k4, ?_, box_below HQ.out _ _ _⟩
      rw [box_size]
      exact own_widen (lo := w.heap.size + 1) (ow_box _ _ _ (own_widen (ow_list HH.out.2.1) (Nat.le_succ _) (Nat.le_refl _))) (Nat.le_succ _) (Nat.le_refl _)

theorem item_any (d : Nat) : ∀ (s : ByteArray) (w : World), d ≤ 4 → s.size ≤ 12 → Calls Try.prog 35 #[.string s, .int .i64 d] w (ItemOk d s w) := by
  induction d with
  | zero =>
    intro s w _ hs
    by_cases hb : s.toList.isEmpty = true
    · exact item_none 0 s w hb
    · have hb' : s.toList.isEmpty = false := by simpa using hb
      have h1 : 0 < s.size := by
        rcases Nat.eq_zero_or_pos s.size with hz | hz
        · rw [toList_isEmpty, ba_empty s hz] at hb'; simp at hb'
        · exact hz
      by_cases h2 : s[0].toNat ≤ 150
      · exact item_leafA 0 s w hs hb' h1 rfl h2
      · exact item_leafB 0 s w hs hb' h1 rfl (by omega)
  | succ d ih =>
    intro s w hd hs
    by_cases hb : s.toList.isEmpty = true
    · exact item_none (d + 1) s w hb
    · have hb' : s.toList.isEmpty = false := by simpa using hb
      have h1 : 0 < s.size := by
        rcases Nat.eq_zero_or_pos s.size with hz | hz
        · rw [toList_isEmpty, ba_empty s hz] at hb'; simp at hb'
        · exact hz
      have h0 : (((d + 1 : Nat) : Int) == 0) = false := by simp; omega
      by_cases h2 : s[0].toNat ≤ 150
      · exact item_leafC (d + 1) s w hs hb' h1 h0 h2
      · by_cases h3 : s[0].toNat < 160
        · exact item_leafD (d + 1) s w hs hb' h1 h0 (by omega) h3
        · rw [show (((d + 1 : Nat) : Int)) = (d : Int) + 1 by omega]
          exact item_list d (fun s w hs => ih s w (by omega) hs) s w hs hb' h1 (by omega) (by omega)
end Go.Proofs.Ytbmohenjphmlgaa

/- Plain mathematics of items and their bytes. Nothing of the program is in here. -/
namespace Go.Proofs.Ytbmohenjphmlgaa
open Go.RowKit
set_option maxRecDepth 100000

namespace Itm
theorem cnt_le_enc (t : Itm) : pure t = true → cnt t ≤ (enc t).length := by
  refine ind (p := fun t => pure t = true → cnt t ≤ (enc t).length) ?_ t
  intro t ih hp
  rw [pure_eq] at hp
  simp only [Bool.and_eq_true] at hp
  obtain ⟨hp1, hp2⟩ := hp
  rw [cnt_eq, enc_eq]
  by_cases hl : t.list
  · rw [if_pos hl]
    have h1 := headed_len 192 (t.items.flatMap enc)
    have h2 : ∀ l : List Itm, (∀ x ∈ l, cnt x ≤ (enc x).length) → (l.map cnt).sum ≤ (l.flatMap enc).length := by
      intro l
      induction l with
      | nil => intro _; simp
      | cons x l ihl =>
        intro hx
        have a1 := hx x (by simp)
        have a2 := ihl (fun y hy => hx y (by simp [hy]))
        simp only [List.map_cons, List.sum_cons, List.flatMap_cons, List.length_append]
        omega
    have h3 := h2 t.items (fun x hx => ih x hx (by simp only [List.all_eq_true] at hp2; exact hp2 x hx))
    omega
  · rw [if_neg hl] at hp1 ⊢
    have h0 : t.items = [] := by simpa using hp1
    have hne := enc_ne t
    rw [enc_eq, if_neg hl] at hne
    have := List.length_pos_iff.2 hne
    rw [h0]; simp; omega

/-- Bytes begin with one item's bytes alone. -/
theorem enc_prefix {t t' : Itm} {r r' : List UInt8} (h1 : pure t = true) (h2 : pure t' = true) (l1 : (enc t).length < 256 ^ 8) (l2 : (enc t').length < 256 ^ 8) (h : enc t ++ r = enc t' ++ r') : t = t' ∧ r = r' := by
  have e1 := parse_complete ((enc t).length + (enc t').length) t r h1 (by omega) l1
  have e2 := parse_complete ((enc t).length + (enc t').length) t' r' h2 (by omega) l2
  rw [h, e2] at e1
  simp only [Option.some.injEq, Prod.mk.injEq] at e1
  exact ⟨e1.1.symm, e1.2.symm⟩

theorem dec_enc {t : Itm} (h1 : pure t = true) (h2 : deep t ≤ 8) (h3 : (enc t).length ≤ 1000) : dec (enc t) = .ok t := by
  unfold dec
  rw [if_neg (by omega)]
  have := parse_complete (enc t).length t [] h1 (Nat.le_refl _) (by omega)
  rw [List.append_nil] at this
  rw [this]
  simp; omega

theorem dec_ok {l : List UInt8} {t : Itm} (h : dec l = .ok t) : l = enc t ∧ pure t = true ∧ deep t ≤ 8 ∧ l.length ≤ 1000 := by
  unfold dec at h
  by_cases h1 : 1000 < l.length
  · rw [if_pos h1] at h; cases h
  · rw [if_neg h1] at h
    cases hp : parse l.length l with
    | none => rw [hp] at h; cases h
    | some tr =>
      obtain ⟨t', rest⟩ := tr
      rw [hp] at h
      simp only at h
      by_cases hr : rest.isEmpty
      · rw [if_pos hr] at h
        by_cases h8 : 8 < deep t'
        · rw [if_pos h8] at h; cases h
        · rw [if_neg h8] at h
          cases h
          obtain ⟨e, p⟩ := parse_sound _ _ _ _ hp
          simp at hr
          subst hr
          exact ⟨by simpa using e, p, by omega, by omega⟩
      · rw [if_neg hr] at h; cases h

theorem dec_err {l : List UInt8} {n : Nat} (h : dec l = .error n) : n = 1 ∨ n = 2 := by
  unfold dec at h
  by_cases h1 : 1000 < l.length
  · rw [if_pos h1] at h; cases h; omega
  · rw [if_neg h1] at h
    cases hp : parse l.length l with
    | none => rw [hp] at h; cases h; omega
    | some tr =>
      obtain ⟨t', rest⟩ := tr
      rw [hp] at h
      simp only at h
      by_cases hr : rest.isEmpty
      · rw [if_pos hr] at h
        by_cases h8 : 8 < deep t'
        · rw [if_pos h8] at h; cases h; omega
        · rw [if_neg h8] at h; cases h
      · rw [if_neg hr] at h; cases h; omega

theorem dec_more {t : Itm} (h1 : pure t = true) (h3 : (enc t).length ≤ 1000) (c : UInt8) : ∃ n, dec (enc t ++ [c]) = .error n := by
  cases h : dec (enc t ++ [c]) with
  | error n => exact ⟨n, rfl⟩
  | ok t' =>
    exfalso
    obtain ⟨e, p, _, hl⟩ := dec_ok h
    have := (enc_prefix (r := [c]) (r' := []) h1 p (by omega) (by rw [← e]; omega) (by rw [e]; simp)).2
    simp at this

theorem dec_less {t : Itm} (h1 : pure t = true) (h3 : (enc t).length ≤ 1000) : dec ((enc t).take ((enc t).length - 1)) = .error 1 := by
  have hne := enc_ne t
  have hpos := List.length_pos_iff.2 hne
  unfold dec
  rw [if_neg (by simp; omega)]
  cases hp : parse ((enc t).take ((enc t).length - 1)).length ((enc t).take ((enc t).length - 1)) with
  | none => rfl
  | some tr =>
    obtain ⟨t', rest⟩ := tr
    simp only
    by_cases hr : rest.isEmpty
    · exfalso
      obtain ⟨e, p⟩ := parse_sound _ _ _ _ hp
      simp at hr
      subst hr
      rw [List.append_nil] at e
      have hl : (enc t').length = (enc t).length - 1 := by rw [← e]; simp
      have := (enc_prefix (t := t) (t' := t') (r := []) (r' := (enc t).drop ((enc t).length - 1)) h1 p (by omega) (by omega) (by rw [← e]; simp)).2
      have h2 : ((enc t).drop ((enc t).length - 1)).length = 1 := by simp; omega
      rw [← this] at h2
      simp at h2
    · rw [if_neg hr]
end Itm
end Go.Proofs.Ytbmohenjphmlgaa

/- The walks of the statement Back's own helpers: sameItem, of two items that are the same; short. -/
namespace Go.Proofs.Ytbmohenjphmlgaa
open Go.RowKit
set_option maxRecDepth 100000

set_option maxHeartbeats 1600000 in
theorem same_any (n : Nat) : ∀ (v v2 : Value) (t : Itm) (w : World), Rep w.heap.size w n v t → Rep w.heap.size w n v2 t →
    Calls Try.prog 37 #[v, v2] w fun e w' => e = .returned (.bool true) ∧ Below w.heap.size w w' := by
  induction n with
  | zero => intro v v2 t w h; exact h.elim
  | succ n ih =>
    intro v v2 t w hrep hrep2
    obtain ⟨a, cap, rfl, hm, hk1⟩ := hrep
    obtain ⟨a', cap', rfl, _, hk2⟩ := hrep2
    have H1 := hid hk1
    have H2 := hid hk2
    have IH := hid ih
    clear hk1 hk2 ih
    unfold maxLen at hm
    go_enter Try.func37, Try.ntmps37
    go_wp2_with fail
    go_loopw [5] (fun i wr => ∃ k : Nat, k ≤ t.items.length ∧ i = .int .i64 k ∧ Hid (Below (w.heap.size + 2) ((w.alloc (.cells #[.bool t.list, .string ⟨t.bytes.toArray⟩, .slice a t.items.length cap] 24)).alloc (.cells #[.bool t.list, .string ⟨t.bytes.toArray⟩, .slice a' t.items.length cap'] 24)) wr)) (fun i _ => t.items.length - (intOf i).toNat)
    case atStart => exact ⟨0, Nat.zero_le _, rfl, Below.refl _ _⟩
    case round =>
      obtain ⟨k, hk, rfl, HB⟩ := hrel
      have x2 : wr.cell? ⟨w.heap.size, 2, none⟩ = some (.slice a t.items.length cap) := by
        rw [HB.out.cell (p := ⟨w.heap.size, 2, none⟩) (by simp)]; simp
      have y2 : wr.cell? ⟨w.heap.size + 1, 2, none⟩ = some (.slice a' t.items.length cap') := by
        rw [HB.out.cell (p := ⟨w.heap.size + 1, 2, none⟩) (by simp)]; simp
      by_cases hlt : k < t.items.length
      · obtain ⟨b, off, c0, c1, c2, rfl, hbl, e0, e1, e2, hr⟩ := H1.out k hlt
        obtain ⟨b', off', d0, d1, d2, rfl, hbl', g0, g1, g2, hr'⟩ := H2.out k hlt
        obtain ⟨a2, cap2, rfl, rfl, rfl⟩ := rep_shape hr
        obtain ⟨a3, cap3, rfl, rfl, rfl⟩ := rep_shape hr'
        have hB0 : Below w.heap.size w wr := (((Below.refl _ _).alloc (Nat.le_refl _) _).alloc (by simp) _).trans (HB.out.mono (by omega))
        have f0 := (hB0.cell (p := ⟨b, off + k * 3, none⟩) hbl).trans e0
        have f1 := (hB0.cell (p := ⟨b, off + k * 3 + 1, none⟩) hbl).trans e1
        have f2 := (hB0.cell (p := ⟨b, off + k * 3 + 2, none⟩) hbl).trans e2
        have f0' := (hB0.cell (p := ⟨b', off' + k * 3, none⟩) hbl').trans g0
        have f1' := (hB0.cell (p := ⟨b', off' + k * 3 + 1, none⟩) hbl').trans g1
        have f2' := (hB0.cell (p := ⟨b', off' + k * 3 + 2, none⟩) hbl').trans g2
        have HR := hid hr
        have HR' := hid hr'
        have HB0 := hid hB0
        clear e0 e1 e2 g0 g1 g2 hr hr' hB0
        have HC : Hid (Calls Try.prog 37 #[.agg #[.bool t.items[k].list, .string ⟨t.items[k].bytes.toArray⟩, .slice a2 t.items[k].items.length cap2], .agg #[.bool t.items[k].list, .string ⟨t.items[k].bytes.toArray⟩, .slice a3 t.items[k].items.length cap3]] wr.drew fun e w' => e = .returned (.bool true) ∧ Below wr.heap.size wr w') :=
          (IH.out _ _ t.items[k] wr.drew (rep_in HR.out HB0.out.drew) (rep_in HR'.out HB0.out.drew)).mono fun e w' h => ⟨h.1, below_undrew h.2⟩
        go_wp2_with fail
        go_region_with (go_at_call 37; refine HC.out.mono ?_; rintro e w2 ⟨rfl, hbel⟩)
        all_goals (go_wp2_with fail; refine ⟨⟨k + 1, by omega, by go_num, HB.out.trans (hbel.mono (by have := HB.out.size; simp at this; omega))⟩, by simp [intOf]; omega⟩)
      · go_wp2_with fail
        go_ret
        exact ⟨rfl, (((Below.refl _ _).alloc (Nat.le_refl _) _).alloc (by simp) _).trans (HB.out.mono (by omega))⟩

set_option maxHeartbeats 400000 in
theorem short_any (s : ByteArray) (w : World) (hs : s.size ≤ maxLen) :
    Calls Try.prog 36 #[.string s, .int .i64 12] w fun e w' => ∃ r : ByteArray, e = .returned (.string r) ∧ r.size ≤ 12 ∧ w' = w := by
  unfold maxLen at hs
  by_cases h : 12 < s.size
  · have h' : (12 : Int) < (s.size : Int) := by omega
    go_enter Try.func36, Try.ntmps36
    go_wp2_with fail
    go_ret
    exact ⟨_, rfl, by simp; omega, rfl⟩
  · have h' : ¬ (12 : Int) < (s.size : Int) := by omega
    go_enter Try.func36, Try.ntmps36
    go_wp2_with fail
    go_ret
    exact ⟨_, rfl, by omega, rfl⟩

theorem rep_lift {B : Nat} {w : World} {v : Value} {t : Itm} {n : Nat} (m : Nat) (h : Rep B w n v t) : Rep B w (n + m) v t := by
  induction m with
  | zero => exact h
  | succ m ih => exact rep_more _ _ _ ih

/-- Two items that are the same, whatever levels each was read at. -/
theorem same_two (n m : Nat) (v v2 : Value) (t : Itm) (w : World) (h1 : Rep w.heap.size w n v t) (h2 : Rep w.heap.size w m v2 t) :
    Calls Try.prog 37 #[v, v2] w fun e w' => e = .returned (.bool true) ∧ Below w.heap.size w w' := by
  have k1 := rep_lift m h1
  have k2 := rep_lift n h2
  rw [Nat.add_comm] at k2
  exact same_any (n + m) v v2 t w k1 k2


end Go.Proofs.Ytbmohenjphmlgaa
