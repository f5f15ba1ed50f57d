/- What all nodes have in common (of the program): Kind, Item, Bytes, Sum; bytesItem, listItem. -/
import Derived.Test.YtbmohenjphmlgaaPrShared
import Derived.Test.YtbmohenjphmlgaaEncode
import Derived.Test.YtbmohenjphmlgaaSameMath
namespace Go.Proofs.Ytbmohenjphmlgaa
open Go.RowKit
set_option maxRecDepth 100000

set_option maxHeartbeats 1600000 in
theorem bytesItem_any (s : ByteArray) (w : World) : Calls Try.prog 112 #[.string s] w fun e w' => e = .returned (.agg #[.bool false, .string s, .slice none 0 0]) ∧ Below w.heap.size w w' := by
  go_enter Try.func112, Try.ntmps112
  go_wp2_with fail
  exact bodyPost_ret (v := .agg #[.bool false, .string s, .slice none 0 0]) (by simp [results, Try.results112, go_sem]) rfl ⟨rfl, (Below.refl _ _).alloc (Nat.le_refl _) _⟩

set_option maxHeartbeats 1600000 in
theorem listItem_any (a : Option Addr) (n cap : Nat) (w : World) : Calls Try.prog 113 #[.slice a n cap] w fun e w' => e = .returned (.agg #[.bool true, .string ⟨#[]⟩, .slice a n cap]) ∧ Below w.heap.size w w' := by
  go_enter Try.func113, Try.ntmps113
  go_wp2_with fail
  exact bodyPost_ret (v := .agg #[.bool true, .string ⟨#[]⟩, .slice a n cap]) (by simp [results, Try.results113, go_sem]) rfl ⟨rfl, (Below.refl _ _).alloc (Nat.le_refl _) _⟩

set_option maxHeartbeats 1600000 in
theorem commonItem_any (k : Int) (a : Option Addr) (n cap : Nat) (l : Bool) (s : ByteArray) (w : World) : Calls Try.prog 158 #[.agg #[.int .i64 k, .bool l, .string s, .slice a n cap]] w fun e w' => e = .returned (.agg #[.bool l, .string s, .slice a n cap]) ∧ Below w.heap.size w w' := by
  go_enter Try.func158, Try.ntmps158
  go_wp2_with fail
  exact bodyPost_ret (v := .agg #[.bool l, .string s, .slice a n cap]) (by simp [results, Try.results158, go_sem]) rfl ⟨rfl, ((Below.refl _ _).alloc (Nat.le_refl _) _).alloc (by simp) _⟩

set_option maxHeartbeats 1600000 in
theorem commonKind_any (k : Int) (a : Option Addr) (n cap : Nat) (l : Bool) (s : ByteArray) (w : World) : Calls Try.prog 159 #[.agg #[.int .i64 k, .bool l, .string s, .slice a n cap]] w fun e w' => e = .returned (.int .i64 k) ∧ Below w.heap.size w w' := by
  go_enter Try.func159, Try.ntmps159
  go_wp2_with fail
  go_ret
  exact ⟨rfl, (Below.refl _ _).alloc (Nat.le_refl _) _⟩

/-- An item that can be written: of a node. -/
structure Small (t : Itm) : Prop where
  pure : Itm.pure t = true
  deep : Itm.deep t ≤ 8
  len : (Itm.enc t).length ≤ 1000

theorem node_small (f : Nat) (l : List Tr.Ent) (hf : f ≤ 100) (h : Tr.Fits f l) : Small (Tr.node f l) := ⟨Tr.node_pure f l, Tr.node_deep f l, Nat.le_trans (Tr.node_len f l hf h) (by decide)⟩

theorem Small.cnt {t : Itm} (h : Small t) : Itm.cnt t ≤ 1000000000 := Nat.le_trans (Itm.cnt_le_enc t h.pure) (Nat.le_trans h.len (by decide))

set_option maxHeartbeats 1600000 in
theorem commonBytes_any (k : Int) (a : Option Addr) (n cap : Nat) (l : Bool) (s : ByteArray) (m : Nat) (t : Itm) (w : World) (hs : Small t) (hr : Rep w.heap.size w (m + 1) (.agg #[.bool l, .string s, .slice a n cap]) t) : Calls Try.prog 129 #[.agg #[.int .i64 k, .bool l, .string s, .slice a n cap]] w fun e w' => e = .returned (.string ⟨(Itm.enc t).toArray⟩) ∧ Below w.heap.size w w' := by
  have HE := hid (fun w h => itemsEncode_any m t w (.agg #[.bool l, .string s, .slice a n cap]) hs.cnt h)
  have HA := hid (Itm.encA_ok hs.pure ⟨hs.deep, hs.len⟩)
  have HR := hid hr
  clear hr
  go_enter Try.func129, Try.ntmps129
  go_wp2_with fail
  refine (HE.out _ (rep_later ((Below.refl _ _).alloc (Nat.le_refl _) _) HR.out)).mono ?_
  rintro e w1 ⟨rfl, b1⟩
  rw [HA.out]
  go_wp2_with fail
  go_ret
  exact ⟨rfl, ((Below.refl _ _).alloc (Nat.le_refl _) _).trans (b1.mono (by simp))⟩

set_option maxHeartbeats 1600000 in
theorem commonSum_any (k : Int) (a : Option Addr) (n cap : Nat) (l : Bool) (s : ByteArray) (m : Nat) (t : Itm) (w : World) (hs : Small t) (hr : Rep w.heap.size w (m + 1) (.agg #[.bool l, .string s, .slice a n cap]) t) : Calls Try.prog 116 #[.agg #[.int .i64 k, .bool l, .string s, .slice a n cap]] w fun e w' => e = .returned (.string ⟨(Tr.sum (Itm.enc t)).toArray⟩) ∧ Below w.heap.size w w' := by
  have HE := hid (fun w h => commonBytes_any k a n cap l s m t w hs h)
  have HS : Hid (∀ w, Calls Try.prog 128 #[.string ⟨(Itm.enc t).toArray⟩] w fun e w' => e = .returned (.string ⟨(Tr.sum (Itm.enc t)).toArray⟩) ∧ Below w.heap.size w w') := by
    intro w
    have := sumOf_any ⟨(Itm.enc t).toArray⟩ w (by rw [← ba_len]; have := hs.len; simp; omega)
    simpa using this
  have HR := hid hr
  clear hr
  go_enter Try.func116, Try.ntmps116
  go_wp2_with fail
  refine (HE.out _ (rep_later ((Below.refl _ _).alloc (Nat.le_refl _) _) HR.out)).mono ?_
  rintro e w1 ⟨rfl, b1⟩
  go_wp2_with fail
  refine (HS.out _).mono ?_
  rintro e w2 ⟨rfl, b2⟩
  go_wp2_with fail
  go_ret
  exact ⟨rfl, (((Below.refl _ _).alloc (Nat.le_refl _) _).trans (b1.mono (by simp))).trans (b2.mono (by have := b1.size; simp at this; omega))⟩
end Go.Proofs.Ytbmohenjphmlgaa
