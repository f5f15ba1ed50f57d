/- Plain mathematics of items and their bytes. Nothing of the program is in here. -/
import Derived.Test.YtbmohenjphmlgaaWell
import Derived.Test.YtbmohenjphmlgaaDecode
namespace Go.Proofs.Ytbmohenjphmlgaa
open Go.RowKit
set_option maxRecDepth 100000

namespace Itm
theorem cnt_le_enc (t : Itm) : pure t = true → cnt t ≤ (enc t).length := by
  refine ind (p := fun t => pure t = true → cnt t ≤ (enc t).length) ?_ t
  intro t ih hp
  rw [pure_eq] at hp
  simp only [Bool.and_eq_true] at hp
  obtain ⟨hp1, hp2⟩ := hp
  rw [cnt_eq, enc_eq]
  by_cases hl : t.list
  · rw [if_pos hl]
    have h1 := headed_len 192 (t.items.flatMap enc)
    have h2 : ∀ l : List Itm, (∀ x ∈ l, cnt x ≤ (enc x).length) → (l.map cnt).sum ≤ (l.flatMap enc).length := by
      intro l
      induction l with
      | nil => intro _; simp
      | cons x l ihl =>
        intro hx
        have a1 := hx x (by simp)
        have a2 := ihl (fun y hy => hx y (by simp [hy]))
        simp only [List.map_cons, List.sum_cons, List.flatMap_cons, List.length_append]
        omega
    have h3 := h2 t.items (fun x hx => ih x hx (by simp only [List.all_eq_true] at hp2; exact hp2 x hx))
    omega
  · rw [if_neg hl] at hp1 ⊢
    have h0 : t.items = [] := by simpa using hp1
    have hne := enc_ne t
    rw [enc_eq, if_neg hl] at hne
    have := List.length_pos_iff.2 hne
    rw [h0]; simp; omega

/-- Bytes begin with one item's bytes alone. -/
theorem enc_prefix {t t' : Itm} {r r' : List UInt8} (h1 : pure t = true) (h2 : pure t' = true) (l1 : (enc t).length < 256 ^ 8) (l2 : (enc t').length < 256 ^ 8) (h : enc t ++ r = enc t' ++ r') : t = t' ∧ r = r' := by
  have e1 := parse_complete ((enc t).length + (enc t').length) t r h1 (by omega) l1
  have e2 := parse_complete ((enc t).length + (enc t').length) t' r' h2 (by omega) l2
  rw [h, e2] at e1
  simp only [Option.some.injEq, Prod.mk.injEq] at e1
  exact ⟨e1.1.symm, e1.2.symm⟩

theorem dec_enc {t : Itm} (h1 : pure t = true) (h2 : deep t ≤ 8) (h3 : (enc t).length ≤ 1000) : dec (enc t) = .ok t := by
  unfold dec
  rw [if_neg (by omega)]
  have := parse_complete (enc t).length t [] h1 (Nat.le_refl _) (by omega)
  rw [List.append_nil] at this
  rw [this]
  simp; omega

theorem dec_ok {l : List UInt8} {t : Itm} (h : dec l = .ok t) : l = enc t ∧ pure t = true ∧ deep t ≤ 8 ∧ l.length ≤ 1000 := by
  unfold dec at h
  by_cases h1 : 1000 < l.length
  · rw [if_pos h1] at h; cases h
  · rw [if_neg h1] at h
    cases hp : parse l.length l with
    | none => rw [hp] at h; cases h
    | some tr =>
      obtain ⟨t', rest⟩ := tr
      rw [hp] at h
      simp only at h
      by_cases hr : rest.isEmpty
      · rw [if_pos hr] at h
        by_cases h8 : 8 < deep t'
        · rw [if_pos h8] at h; cases h
        · rw [if_neg h8] at h
          cases h
          obtain ⟨e, p⟩ := parse_sound _ _ _ _ hp
          simp at hr
          subst hr
          exact ⟨by simpa using e, p, by omega, by omega⟩
      · rw [if_neg hr] at h; cases h

theorem dec_err {l : List UInt8} {n : Nat} (h : dec l = .error n) : n = 1 ∨ n = 2 := by
  unfold dec at h
  by_cases h1 : 1000 < l.length
  · rw [if_pos h1] at h; cases h; omega
  · rw [if_neg h1] at h
    cases hp : parse l.length l with
    | none => rw [hp] at h; cases h; omega
    | some tr =>
      obtain ⟨t', rest⟩ := tr
      rw [hp] at h
      simp only at h
      by_cases hr : rest.isEmpty
      · rw [if_pos hr] at h
        by_cases h8 : 8 < deep t'
        · rw [if_pos h8] at h; cases h; omega
        · rw [if_neg h8] at h; cases h
      · rw [if_neg hr] at h; cases h; omega

theorem dec_more {t : Itm} (h1 : pure t = true) (h3 : (enc t).length ≤ 1000) (c : UInt8) : ∃ n, dec (enc t ++ [c]) = .error n := by
  cases h : dec (enc t ++ [c]) with
  | error n => exact ⟨n, rfl⟩
  | ok t' =>
    exfalso
    obtain ⟨e, p, _, hl⟩ := dec_ok h
    have := (enc_prefix (r := [c]) (r' := []) h1 p (by omega) (by rw [← e]; omega) (by rw [e]; simp)).2
    simp at this

theorem dec_less {t : Itm} (h1 : pure t = true) (h3 : (enc t).length ≤ 1000) : dec ((enc t).take ((enc t).length - 1)) = .error 1 := by
  have hne := enc_ne t
  have hpos := List.length_pos_iff.2 hne
  unfold dec
  rw [if_neg (by simp; omega)]
  cases hp : parse ((enc t).take ((enc t).length - 1)).length ((enc t).take ((enc t).length - 1)) with
  | none => rfl
  | some tr =>
    obtain ⟨t', rest⟩ := tr
    simp only
    by_cases hr : rest.isEmpty
    · exfalso
      obtain ⟨e, p⟩ := parse_sound _ _ _ _ hp
      simp at hr
      subst hr
      rw [List.append_nil] at e
      have hl : (enc t').length = (enc t).length - 1 := by rw [← e]; simp
      have := (enc_prefix (t := t) (t' := t') (r := []) (r' := (enc t).drop ((enc t).length - 1)) h1 p (by omega) (by omega) (by rw [← e]; simp)).2
      have h2 : ((enc t).drop ((enc t).length - 1)).length = 1 := by simp; omega
      rw [← this] at h2
      simp at h2
    · rw [if_neg hr]
end Itm
end Go.Proofs.Ytbmohenjphmlgaa
