/- The walk of looks of Book (of the statements own): what waits reads as it came, or is settled. -/
import Derived.Test.YtplfjengfhijhaaSettles
import Derived.Test.YtplfjengfhijhaaKeepBase
namespace Go.Proofs.Ytplfjengfhijhaa
open Go.RowKit

/-- A look at what waits and at what is marked. -/
def LooksPost (c : Nat → Nat) (B Q : Nat) (l : List Itm) (w : World) (e : Ending) (w' : World) : Prop :=
  e = .returned (.bool true) ∧ ∃ c' it' wi' we' Q' l', BookSt w' c' B it' wi' we' Q' ∧ WaitRow w' c' 3 wi' l' ∧ WaitRow w' c' 4 we' l' ∧ Calm c c' w w' ∧ ((Q' = Q ∧ l' = l ∧ l.length ≤ 3) ∨ (Q' = Q + Itm.cntL l ∧ l' = []))

set_option maxRecDepth 100000 in
set_option maxHeartbeats 1600000 in
theorem looks_any (w : World) (c : Nat → Nat) (B : Nat) (it wi we : Value) (Q : Nat) (l : List Itm) (hB : BookSt w c B it wi we Q) (h3 : WaitRow w c 3 wi l) (h4 : WaitRow w c 4 we l) (hl : l.length ≤ 1000) (hQ : Q + Itm.cntL l ≤ 100000000000) (hcnt : ∀ x ∈ l, Itm.cnt x ≤ 100000) :
    Calls Try.prog 15 #[.pointer (some ⟨B, 0, none⟩)] w (LooksPost c B Q l w) := by
  obtain ⟨a3, cap3, rfl⟩ := h3.shape
  obtain ⟨a4, cap4, rfl⟩ := h4.shape
  obtain ⟨_, b7, _, _⟩ := hB.cells
  obtain ⟨_, _, b3, _, b5, _, _⟩ := hB.nils
  have HB := hid hB
  have H3 := hid h3
  have H4 := hid h4
  have HL := hid hl
  have HQ := hid hQ
  have HC := hid hcnt
  have e0 : IntKind.i64.wrap 0 = 0 := by decide
  have e1 : IntKind.i64.wrap (l.length : Int) = (l.length : Int) := wrap_small _ (by omega) (by omega)
  clear hB h3 h4 hl hQ hcnt
  go_enter Try.func15, Try.ntmps15
  by_cases hlt : (3 : Int) < (l.length : Int)
  · go_wp2_with fail
    go_region_held3 (fun w' => w'.cell? ⟨B, 3, none⟩ = some (.slice none 0 0) ∧ w'.cell? ⟨B, 5, none⟩ = some (.slice none 0 0) ∧ w'.cell? ⟨B, 7, none⟩ = some (.slice a3 l.length cap3)) (go_keep) (fail)
    go_wp2_with fail
    refine (settles_any _ c B it _ _ Q l (HB.out.below ((Below.refl _ _).drew)) (H3.out.later (by omega) ((Below.refl _ _).drew) (fun _ _ => rfl)) (H4.out.later (by omega) ((Below.refl _ _).drew) (fun _ _ => rfl)) HL.out HQ.out HC.out).mono ?_
    rintro e w' ⟨rfl, c', it', hb, hcalm⟩
    have HP : Hid (LooksPost c B Q l w (.returned (.bool true)) w') := ⟨rfl, c', it', _, _, _, [], hb, waitRow_nil _ _ _, waitRow_nil _ _ _, ⟨hcalm.os, hcalm.tape, hcalm.output, hcalm.size, hcalm.keep⟩, .inr ⟨rfl, rfl⟩⟩
    clear hb hcalm
    go_wp2_with fail
    go_ret
    exact HP.out
  · go_wp2_with fail
    go_region_held3 (fun w' => w'.cell? ⟨B, 3, none⟩ = some (.slice none 0 0) ∧ w'.cell? ⟨B, 5, none⟩ = some (.slice none 0 0) ∧ w'.cell? ⟨B, 7, none⟩ = some (.slice a3 l.length cap3)) (go_keep) (fail)
    go_wp2_with fail
    refine (waits_any _ c B it _ _ Q l (HB.out.below ((Below.refl _ _).drew)) (H3.out.later (by omega) ((Below.refl _ _).drew) (fun _ _ => rfl)) (H4.out.later (by omega) ((Below.refl _ _).drew) (fun _ _ => rfl)) HL.out).mono ?_
    rintro e w1 ⟨rfl, hb1⟩
    have HB1 : Hid (Below w.heap.size w w1) := below_undrew hb1
    clear hb1
    go_wp2_with fail
    refine (reads_any _ c B it _ _ Q (HB.out.below HB1.out) (by have := HQ.out; omega)).mono ?_
    rintro e w2 ⟨rfl, hb2⟩
    have HB2 : Hid (Below w.heap.size w w2) := HB1.out.trans (hb2.mono HB1.out.size)
    clear hb2
    go_wp2_with fail
    go_ret
    exact ⟨rfl, c, it, _, _, Q, l, HB.out.below HB2.out, H3.out.later (by omega) HB2.out (fun _ _ => rfl), H4.out.later (by omega) HB2.out (fun _ _ => rfl), Calm.of_below HB2.out, .inl ⟨rfl, rfl, by omega⟩⟩
end Go.Proofs.Ytplfjengfhijhaa
