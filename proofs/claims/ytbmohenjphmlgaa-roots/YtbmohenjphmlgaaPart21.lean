/- Part 21 of a proof: what the last text needs. -/
import Derived.Test.YtbmohenjphmlgaaPart20
import Derived.Test.YtbmohenjphmlgaaPart2
import Derived.Test.YtbmohenjphmlgaaPart7
import Derived.Test.YtbmohenjphmlgaaPart13
import Derived.Test.YtbmohenjphmlgaaPart11
/- Plain mathematics of trees: a table's nodes are sound, and its proofs are. Nothing of the program is in here. -/
namespace Go.Proofs.Ytbmohenjphmlgaa
set_option maxRecDepth 100000

namespace Tr

theorem ofNat_toNat (c : UInt8) : UInt8.ofNat c.toNat = c := Itm.ofNat_toNat' c _ rfl

theorem list_cases (l : List Ent) : l = [] ∨ (∃ e, l = [e]) ∨ ∃ a b r, l = a :: b :: r := by
  match l with
  | [] => exact .inl rfl
  | [e] => exact .inr (.inl ⟨e, rfl⟩)
  | a :: b :: r => exact .inr (.inr ⟨a, b, r, rfl⟩)

/-- Where a way through a node of a table goes. -/
def GoesOn (f : Nat) (l : List Ent) (k : List UInt8) (br : Bool) : Prop :=
  (elems f l k = [] ∧ ∃ w, goes (node f l) k br = some w ∧ w.need = [] ∧ w.value = look l k ∧ w.found = !(look l k).isEmpty)
  ∨ ∃ f' l' k' br', f' < f ∧ elems f l k = Itm.enc (node f' l') :: elems f' l' k' ∧ goes (node f l) k br = some ⟨k', br', [], false, sum (Itm.enc (node f' l'))⟩ ∧ ¬ (Itm.enc (node f' l')).length < 8 ∧ (br' = true → Forks l') ∧ Fits f' l' ∧ Apart l' ∧ Full l' ∧ (∀ c ∈ k', c.toNat < 16) ∧ look l' k' = look l k

theorem elems_fork (f : Nat) {l : List Ent} (h : Forks l) (c : UInt8) (r : List UInt8) : elems (f + 1) l (c :: r) = (if (Itm.enc (node f (behind [c] l))).length < 8 then [] else [Itm.enc (node f (behind [c] l))]) ++ elems f (behind [c] l) r := by
  obtain ⟨a, b, s, rfl, hs⟩ := h
  rw [elems.eq_def]
  simp only [hs, if_true]

theorem elems_end (f : Nat) {l : List Ent} (h : Forks l) : elems (f + 1) l [] = [] := by
  obtain ⟨a, b, s, rfl, hs⟩ := h
  rw [elems.eq_def]
  simp only [hs, if_true]

theorem elems_ext (f : Nat) {l : List Ent} {a b : Ent} {r : List Ent} (hl : l = a :: b :: r) (hs : shared l ≠ []) (k : List UInt8) : elems (f + 1) l k = if (shared l).isPrefixOf k then Itm.enc (node f (behind (shared l) l)) :: elems f (behind (shared l) l) (k.drop (shared l).length) else [] := by
  subst hl
  rw [elems.eq_def]
  simp only [hs, if_false]

theorem fits_pos {f : Nat} {l : List Ent} (h : Fits f l) (hl : l ≠ []) : 0 < f := by
  match l, hl with
  | e :: _, _ => have := (h e (by simp)).1; omega

theorem kid_two0 (x y : Itm) : kid (itL [x, y]) 0 = x := rfl
theorem kid_two1 (x y : Itm) : kid (itL [x, y]) 1 = y := rfl

theorem goes_node : ∀ (f : Nat) (l : List Ent) (k : List UInt8) (br : Bool), Fits f l → Apart l → Full l → (∀ c ∈ k, c.toNat < 16) → (br = true → Forks l) → GoesOn f l k br := by
  intro f
  induction f with
  | zero =>
    intro l k br hf ha hu hk hbr
    have hl : l = [] := Classical.byContradiction fun h => absurd (fits_pos hf h) (by omega)
    subst hl
    have hb : br = false := by
      cases br with
      | false => rfl
      | true => obtain ⟨_, _, _, h, _⟩ := hbr rfl; cases h
    subst hb
    exact .inl ⟨rfl, .none, goes_empty k rfl, rfl, rfl, rfl⟩
  | succ f ih =>
    intro l k br hf ha hu hk hbr
    rcases list_cases l with hl | ⟨e, hl⟩ | ⟨a, b, r, hl⟩
    · subst hl
      have hb : br = false := by
        cases br with
        | false => rfl
        | true => obtain ⟨_, _, _, h, _⟩ := hbr rfl; cases h
      subst hb
      exact .inl ⟨rfl, .none, goes_empty k rfl, rfl, rfl, rfl⟩
    · subst hl
      have hb : br = false := by
        cases br with
        | false => rfl
        | true => obtain ⟨_, _, _, h, _⟩ := hbr rfl; cases h
      subst hb
      obtain ⟨_, h2, h3⟩ := hf e (by simp)
      have hg := goes_leaf (t := node (f + 1) [e]) k e.dig rfl rfl (by show unpath (kid (itL [itB (path e.dig true), itB e.val]) 0) = _; rw [kid_two0]; exact unpath_path e.dig true h2)
      have hlook := look_some ha (e := e) (by simp)
      by_cases hd : e.dig = k
      · rw [if_pos hd] at hg
        rw [hd] at hlook
        refine .inl ⟨rfl, _, hg, rfl, ?_, ?_⟩
        · rw [hlook]; rfl
        · rw [hlook]
          have := hu e (by simp)
          show true = !e.val.isEmpty
          cases hv : e.val with
          | nil => exact absurd hv this
          | cons => rfl
      · rw [if_neg hd] at hg
        have hn : look [e] k = [] := look_none fun x hx => by
          rcases List.mem_cons.1 hx with rfl | hx
          · exact hd
          · simp at hx
        exact .inl ⟨rfl, _, hg, rfl, by rw [hn]; rfl, by rw [hn]; rfl⟩
    · by_cases hs : shared l = []
      · have hfk : Forks l := ⟨a, b, r, hl, hs⟩
        have hbb := isBranch_fork f hfk
        match k, hk with
        | [], _ =>
          have hg := goes_end br hbb
          rw [kid_fork16 f hfk, valOf_look ha] at hg
          exact .inl ⟨elems_end f hfk, _, hg, rfl, rfl, rfl⟩
        | c :: s, hk =>
          have hc := hk c (by simp)
          have hks : ∀ x ∈ s, x.toNat < 16 := fun x hx => hk x (by simp [hx])
          have hg := goes_down c s br hbb (by omega)
          rw [kid_fork f hfk _ hc, ofNat_toNat, refers_ref] at hg
          have hfit : Fits f (behind [c] l) := hf.behind (by simp)
          have hlk : look (behind [c] l) s = look l (c :: s) := look_behind ha [c] s
          have he := elems_fork f hfk c s
          by_cases hsh : (Itm.enc (node f (behind [c] l))).length < 8
          · rw [if_pos hsh] at hg he
            rw [List.nil_append] at he
            rcases ih (behind [c] l) s false hfit ha.behind hu.behind hks (fun h => by cases h) with ⟨h1, w, h2, h3, h4, h5⟩ | ⟨f', l', k', br', h1, h2, h3, h4, h5, h6, h7, h8, h9, h10⟩
            · exact .inl ⟨he.trans h1, w, hg.trans h2, h3, by rw [← hlk]; exact h4, by rw [← hlk]; exact h5⟩
            · exact .inr ⟨f', l', k', br', by omega, he.trans h2, hg.trans h3, h4, h5, h6, h7, h8, h9, h10.trans hlk⟩
          · rw [if_neg hsh] at hg he
            exact .inr ⟨f, behind [c] l, s, false, by omega, he, hg, hsh, (fun h => by cases h), hfit, ha.behind, hu.behind, hks, hlk⟩
      · have hb : br = false := by
          cases br with
          | false => rfl
          | true => obtain ⟨_, _, _, _, h⟩ := hbr rfl; exact absurd h hs
        subst hb
        have hn := node_ext f hl hs
        have hdig : ∀ c ∈ shared l, c.toNat < 16 := by
          intro c hc
          have hpre := shared_pre l a (by rw [hl]; simp)
          exact (hf a (by rw [hl]; simp)).2.1 c (hpre.subset hc)
        have hu' : unpath (kid (node (f + 1) l) 0) = some (shared l, false) := by rw [hn, kid_two0]; exact unpath_path _ _ hdig
        have hb0 : isBranch (node (f + 1) l) = false := by rw [hn]; rfl
        have he0 : isEmpty (node (f + 1) l) = false := by rw [hn]; rfl
        have he := elems_ext f hl hs k
        by_cases hp : shared l <+: k
        · rw [if_pos (List.isPrefixOf_iff_prefix.2 hp)] at he
          obtain ⟨s, hks⟩ := hp
          have hdrop : k.drop (shared l).length = s := by rw [← hks, List.drop_left]
          have hg := goes_hit k (shared l) hb0 he0 (by rw [hn]; rfl) hu' (by rw [← hks, List.length_append]; omega) (by rw [← hks, List.take_left])
          have hfit : Fits f (behind (shared l) l) := hf.behind hs
          have hfk := forks_behind hl
          have hf0 : 0 < f := fits_pos hfit (by obtain ⟨_, _, _, h, _⟩ := hfk; rw [h]; simp)
          obtain ⟨f0, rfl⟩ : ∃ f0, f = f0 + 1 := ⟨f - 1, by omega⟩
          have hlong := fork_long f0 hfk
          rw [show kid (node (f0 + 1 + 1) l) 1 = ref (node (f0 + 1) (behind (shared l) l)) from by rw [hn, kid_two1], refers_ref, if_neg hlong, hdrop] at hg
          rw [hdrop] at he
          exact .inr ⟨f0 + 1, _, s, true, by omega, he, hg, hlong, fun _ => hfk, hfit, ha.behind, hu.behind, fun c hc => hk c (by rw [← hks]; simp [hc]), by rw [look_behind ha, hks]⟩
        · rw [if_neg (fun h => hp (List.isPrefixOf_iff_prefix.1 h))] at he
          have hm : k.length < (shared l).length ∨ k.take (shared l).length ≠ shared l := by
            by_cases h : k.length < (shared l).length
            · exact .inl h
            · exact .inr fun ht => hp (ht ▸ List.take_prefix _ _)
          have hg := goes_miss k (shared l) hb0 he0 hu' hm
          have hn : look l k = [] := look_none fun e he hd => hp (hd ▸ shared_pre l e he)
          exact .inl ⟨he, _, hg, rfl, by rw [hn]; rfl, by rw [hn]; rfl⟩

theorem node_list {f : Nat} {l : List Ent} (hf : Fits f l) (hl : l ≠ []) : (node f l).list = true := by
  obtain ⟨f0, rfl⟩ : ∃ f0, f = f0 + 1 := ⟨f - 1, by have := fits_pos hf hl; omega⟩
  rw [node]
  unfold nodeOf
  match l, hl with
  | [e], _ => rfl
  | a :: b :: r, _ =>
    dsimp only
    split <;> rfl

theorem node_nil (f : Nat) : isEmpty (node f []) = true := by cases f <;> rfl

theorem isEmpty_list {t : Itm} (h : t.list = true) : isEmpty t = false := by unfold isEmpty; rw [h]; rfl

theorem ref_full {f : Nat} {l : List Ent} (hf : Fits f l) (hl : l ≠ []) : isEmpty (ref (node f l)) = false := by
  unfold ref
  split
  · exact isEmpty_list (node_list hf hl)
  · have := sum_len (Itm.enc (node f l))
    unfold isEmpty itB
    cases h : sum (Itm.enc (node f l)) with
    | nil => rw [h] at this; simp at this
    | cons => simp

theorem full_mono (t : Itm) {n m : Nat} (h : n ≤ m) : full t n ≤ full t m := by
  induction m with
  | zero => rw [Nat.le_zero.1 h]; exact Nat.le_refl _
  | succ m ih =>
    by_cases hn : n ≤ m
    · rw [full_succ]; have := ih hn; omega
    · rw [show n = m + 1 by omega]; exact Nat.le_refl _

theorem full_two (t : Itm) {i j n : Nat} (hij : i < j) (hj : j < n) (hi : isEmpty (kid t i) = false) (hj' : isEmpty (kid t j) = false) : 2 ≤ full t n := by
  have h1 : full t (i + 1) = full t i + 1 := by rw [full_succ, hi]; rfl
  have h2 : full t (j + 1) = full t j + 1 := by rw [full_succ, hj']; rfl
  have h3 := full_mono t (show i + 1 ≤ j by omega)
  have h4 := full_mono t (show j + 1 ≤ n by omega)
  omega

/-- Where in a branch an entry stands. -/
def slot (e : Ent) : Nat := match e.dig with | [] => 16 | c :: _ => c.toNat

theorem fork_two {l : List Ent} (h : Forks l) (ha : Apart l) (hf : ∀ e ∈ l, ∀ c ∈ e.dig, c.toNat < 16) : ∃ x ∈ l, ∃ y ∈ l, slot x ≠ slot y := by
  obtain ⟨a, b, r, hl, hs⟩ := h
  refine Classical.byContradiction fun hno => ?_
  have hall : ∀ x ∈ l, slot x = slot a := fun x hx => Classical.byContradiction fun hne => hno ⟨x, hx, a, by rw [hl]; simp, hne⟩
  have hne : a.dig ≠ b.dig := by rw [hl] at ha; exact (List.pairwise_cons.1 ha).1 b (by simp)
  have hma : a ∈ l := by rw [hl]; simp
  have hmb : b ∈ l := by rw [hl]; simp
  cases hd : a.dig with
  | nil =>
    have hb := hall b hmb
    have h16 : slot a = 16 := by unfold slot; rw [hd]
    cases hdb : b.dig with
    | nil => exact hne (by rw [hd, hdb])
    | cons c s =>
      have : slot b = c.toNat := by unfold slot; rw [hdb]
      have := hf b hmb c (by rw [hdb]; simp)
      omega
  | cons c s =>
    have hc : slot a = c.toNat := by unfold slot; rw [hd]
    have hc16 := hf a hma c (by rw [hd]; simp)
    have hp : [c] <+: shared l := by
      rw [shared_iff _ _ (by rw [hl]; simp)]
      intro e he
      have h1 := hall e he
      cases hde : e.dig with
      | nil =>
        have : slot e = 16 := by unfold slot; rw [hde]
        omega
      | cons d t =>
        have : slot e = d.toNat := by unfold slot; rw [hde]
        have : d = c := UInt8.toNat_inj.1 (by omega)
        rw [this]
        exact ⟨t, rfl⟩
    rw [hs] at hp
    have := hp.length_le
    simp at this

theorem kid_slot (f : Nat) {l : List Ent} (h : Forks l) (ha : Apart l) (hf : Fits (f + 1) l) (hu : Full l) {x : Ent} (hx : x ∈ l) : slot x < 17 ∧ isEmpty (kid (node (f + 1) l) (slot x)) = false := by
  cases hd : x.dig with
  | nil =>
    have h16 : slot x = 16 := by unfold slot; rw [hd]
    rw [h16, kid_fork16 f h, valOf_some ha hx hd]
    refine ⟨by omega, ?_⟩
    unfold isEmpty itB
    have := hu x hx
    cases hv : x.val with
    | nil => exact absurd hv this
    | cons => rfl
  | cons c s =>
    have hc : slot x = c.toNat := by unfold slot; rw [hd]
    have hc16 := (hf x hx).2.1 c (by rw [hd]; simp)
    rw [hc, kid_fork f h _ hc16, ofNat_toNat]
    refine ⟨by omega, ref_full (hf.behind (by simp)) ?_⟩
    have hm : (⟨s, x.val⟩ : Ent) ∈ behind [c] l := by
      unfold behind
      rw [List.mem_filterMap]
      refine ⟨x, hx, ?_⟩
      rw [hd, if_pos (by simp)]
      rfl
    intro h0
    rw [h0] at hm
    simp at hm

theorem isValue_itB {s : List UInt8} (h1 : s ≠ []) (h2 : s.length ≤ 40) : isValue (itB s) = true := by
  unfold isValue itB
  have : 1 ≤ s.length := by
    cases s with
    | nil => exact absurd rfl h1
    | cons => simp
  simp [this, h2]

/-- Every node of a table is sound. -/
theorem sound_node : ∀ (f : Nat) (l : List Ent), Fits f l → Apart l → Full l → sound (node f l) = true := by
  intro f
  induction f with
  | zero => intro l _ _ _; rw [sound_eq]; rfl
  | succ f ih =>
    intro l hf ha hu
    rcases list_cases l with hl | ⟨e, hl⟩ | ⟨a, b, r, hl⟩
    · subst hl; rw [sound_eq]; rfl
    · subst hl
      obtain ⟨_, h2, h3⟩ := hf e (by simp)
      rw [sound_eq]
      show (false || (if (2 : Nat) = 2 then pairOk (unpath (kid (itL [itB (path e.dig true), itB e.val]) 0)) (kid (itL [itB (path e.dig true), itB e.val]) 1) else _)) = true
      rw [kid_two0, kid_two1, unpath_path e.dig true h2, if_pos rfl]
      exact isValue_itB (hu e (by simp)) h3
    · by_cases hs : shared l = []
      · have hfk : Forks l := ⟨a, b, r, hl, hs⟩
        have hbb := isBranch_fork f hfk
        rw [sound_good (branch_full hbb) hbb]
        · obtain ⟨x, hx, y, hy, hne⟩ := fork_two hfk ha (fun e he => (hf e he).2.1)
          obtain ⟨x1, x2⟩ := kid_slot f hfk ha hf hu hx
          obtain ⟨y1, y2⟩ := kid_slot f hfk ha hf hu hy
          refine decide_eq_true ?_
          rcases Nat.lt_or_gt_of_ne hne with h | h
          · exact full_two _ h y1 x2 y2
          · exact full_two _ h x1 y2 x2
        · intro i hi
          rw [slotOk_eq]
          by_cases h16 : i = 16
          · rw [if_pos h16, h16, kid_fork16 f hfk]
            by_cases hv : valOf l = []
            · rw [hv]; rfl
            · rw [isValue_itB hv (valOf_le l 40 fun e he => (hf e he).2.2)]; simp
          · have hi16 : i < 16 := by omega
            rw [if_neg h16, kid_fork f hfk i hi16]
            have hfit : Fits f (behind [UInt8.ofNat i] l) := hf.behind (by simp)
            by_cases hsh : (Itm.enc (node f (behind [UInt8.ofNat i] l))).length < 8
            · rw [ref_short hsh]
              by_cases hnil : behind [UInt8.ofNat i] l = []
              · rw [hnil, node_nil]; rfl
              · rw [node_list hfit hnil, ih _ hfit ha.behind hu.behind, decide_eq_true hsh]; simp
            · rw [ref_long hsh, isSum_itB _ (sum_len _)]; simp
      · have hn := node_ext f hl hs
        have hdig : ∀ c ∈ shared l, c.toNat < 16 := by
          intro c hc
          have hpre := shared_pre l a (by rw [hl]; simp)
          exact (hf a (by rw [hl]; simp)).2.1 c (hpre.subset hc)
        have hfit : Fits f (behind (shared l) l) := hf.behind hs
        have hfk := forks_behind hl
        have hf0 : 0 < f := fits_pos hfit (by obtain ⟨_, _, _, h, _⟩ := hfk; rw [h]; simp)
        obtain ⟨f0, rfl⟩ : ∃ f0, f = f0 + 1 := ⟨f - 1, by omega⟩
        have hlong := fork_long f0 hfk
        rw [sound_eq, hn]
        show (false || (if (2 : Nat) = 2 then pairOk (unpath (kid (itL [itB (path (shared l) false), ref (node (f0 + 1) (behind (shared l) l))]) 0)) (kid (itL [itB (path (shared l) false), ref (node (f0 + 1) (behind (shared l) l))]) 1) else _)) = true
        rw [kid_two0, kid_two1, unpath_path _ false hdig, if_pos rfl, ref_long hlong]
        show (decide (0 < (shared l).length) && isSum (itB (sum (Itm.enc (node (f0 + 1) (behind (shared l) l)))))) = true
        rw [isSum_itB _ (sum_len _), Bool.and_true]
        refine decide_eq_true ?_
        cases h : shared l with
        | nil => exact absurd h hs
        | cons => simp

theorem whole_enc {t : Itm} (h1 : Itm.pure t = true) (h2 : (Itm.enc t).length ≤ 1000) : whole (Itm.enc t) = some t := by
  unfold whole
  have := Itm.parse_complete (Itm.enc t).length t [] h1 (Nat.le_refl _) (Nat.lt_of_le_of_lt h2 (by decide))
  rw [List.append_nil] at this
  rw [this]

/-- A proof of a table's is one, and tells what the table has. -/
theorem vloop_node : ∀ (f : Nat) (l : List Ent) (k : List UInt8) (br : Bool) (v0 : List UInt8) (b0 : Bool) (i : Nat), f ≤ 100 → Fits f l → Apart l → Full l → (∀ c ∈ k, c.toNat < 16) → (br = true → Forks l) → (0 < i → ¬ (Itm.enc (node f l)).length < 8) →
    ∃ w, vloop i ⟨k, br, v0, b0, sum (Itm.enc (node f l))⟩ (proofOf f l k) = some w ∧ w.need = [] ∧ w.value = look l k ∧ w.found = !(look l k).isEmpty := by
  intro f
  induction f using Nat.strongRecOn with
  | ind f ih =>
    intro l k br v0 b0 i hle hf ha hu hk hbr hi
    have hneed : (⟨k, br, v0, b0, sum (Itm.enc (node f l))⟩ : Way).need ≠ [] := by
      intro h
      have := sum_len (Itm.enc (node f l))
      have h' : sum (Itm.enc (node f l)) = [] := h
      rw [h'] at this
      simp at this
    have hst := vstep_goes (i := i) hneed rfl (fun h => hi h.1 h.2) (whole_enc (node_pure f l) (Nat.le_trans (node_len f l hle hf) (by decide))) (sound_node f l hf ha hu)
    rcases goes_node f l k br hf ha hu hk hbr with ⟨h1, w, h2, h3, h4, h5⟩ | ⟨f', l', k', br', h1, h2, h3, h4, h5, h6, h7, h8, h9, h10⟩
    · refine ⟨w, ?_, h3, h4, h5⟩
      unfold proofOf
      rw [vloop_go (hst.trans h2), h1]
      rfl
    · obtain ⟨w, g1, g2, g3, g4⟩ := ih f' h1 l' k' br' [] false (i + 1) (by omega) h6 h7 h8 h9 h5 (fun _ => h4)
      refine ⟨w, ?_, g2, by rw [← h10]; exact g3, by rw [← h10]; exact g4⟩
      unfold proofOf
      rw [vloop_go (hst.trans h3), h2]
      exact g1

theorem elems_len : ∀ (f : Nat) (l : List Ent) (k : List UInt8), Fits f l → Apart l → Full l → (∀ c ∈ k, c.toNat < 16) → ∀ br, (br = true → Forks l) → (elems f l k).length ≤ f := by
  intro f
  induction f using Nat.strongRecOn with
  | ind f ih =>
    intro l k hf ha hu hk br hbr
    rcases goes_node f l k br hf ha hu hk hbr with ⟨h1, _⟩ | ⟨f', l', k', br', h1, h2, h3, h4, h5, h6, h7, h8, h9, h10⟩
    · rw [h1]; simp
    · rw [h2]
      have := ih f' h1 l' k' h6 h7 h8 h9 br' h5
      simp only [List.length_cons]; omega

theorem elems_small : ∀ (f : Nat) (l : List Ent) (k : List UInt8), f ≤ 100 → Fits f l → Apart l → Full l → (∀ c ∈ k, c.toNat < 16) → ∀ br, (br = true → Forks l) → ∀ s ∈ elems f l k, s.length ≤ 300 := by
  intro f
  induction f using Nat.strongRecOn with
  | ind f ih =>
    intro l k hle hf ha hu hk br hbr s hs
    rcases goes_node f l k br hf ha hu hk hbr with ⟨h1, _⟩ | ⟨f', l', k', br', h1, h2, h3, h4, h5, h6, h7, h8, h9, h10⟩
    · rw [h1] at hs; simp at hs
    · rw [h2] at hs
      rcases List.mem_cons.1 hs with rfl | hs
      · exact node_len f' l' (by omega) h6
      · exact ih f' h1 l' k' (by omega) h6 h7 h8 h9 br' h5 s hs

theorem table_full (ps : List (List UInt8 × List UInt8)) : Full (table ps) := fun e he => by
  obtain ⟨k, rfl, hk⟩ := (table_mem ps e).1 he
  exact hk

/-- The proof for a key in a table. -/
def prove (ps : List (List UInt8 × List UInt8)) (key : List UInt8) : List (List UInt8) := proofOf 13 (table ps) (digits key)

theorem prove_len (ps : List (List UInt8 × List UInt8)) (key : List UInt8) (hk : ∀ p ∈ ps, p.1.length ≤ 6) (hv : ∀ p ∈ ps, p.2.length ≤ 40) : (prove ps key).length ≤ 14 := by
  have := elems_len 13 (table ps) (digits key) (table_fits ps hk hv) (table_apart ps) (table_full ps) (digits_lt key) false (fun h => by cases h)
  unfold prove proofOf
  simp only [List.length_cons]; omega

theorem prove_small (ps : List (List UInt8 × List UInt8)) (key : List UInt8) (hk : ∀ p ∈ ps, p.1.length ≤ 6) (hv : ∀ p ∈ ps, p.2.length ≤ 40) : ∀ s ∈ prove ps key, s.length ≤ 300 := by
  intro s hs
  rcases List.mem_cons.1 hs with rfl | hs
  · exact node_len 13 _ (by decide) (table_fits ps hk hv)
  · exact elems_small 13 (table ps) (digits key) (by decide) (table_fits ps hk hv) (table_apart ps) (table_full ps) (digits_lt key) false (fun h => by cases h) s hs

/-- What is proved is what the table has. -/
theorem prove_loop (ps : List (List UInt8 × List UInt8)) (key : List UInt8) (hk : ∀ p ∈ ps, p.1.length ≤ 6) (hv : ∀ p ∈ ps, p.2.length ≤ 40) :
    ∃ w, vloop 0 ⟨digits key, false, [], false, sum (Itm.enc (node 13 (table ps)))⟩ (prove ps key) = some w ∧ w.need = [] ∧ w.value = value ps key ∧ w.found = !(value ps key).isEmpty := by
  obtain ⟨w, h1, h2, h3, h4⟩ := vloop_node 13 (table ps) (digits key) false [] false 0 (by decide) (table_fits ps hk hv) (table_apart ps) (table_full ps) (digits_lt key) (fun h => by cases h) (fun h => by omega)
  rw [look_table] at h3 h4
  exact ⟨w, h1, h2, h3, h4⟩

theorem verify_ok {root key : List UInt8} {proof : List (List UInt8)} (h1 : root.length = 8) (h2 : key.length ≤ 6) (h3 : proof.length ≤ 20) (h4 : ∀ s ∈ proof, s.length ≤ 1000) : verify root key proof = verEnd (vloop 0 ⟨digits key, false, [], false, root⟩ proof) := by
  unfold verify
  rw [if_neg (by omega), if_neg (by omega), if_neg]
  rintro (h | ⟨s, hs, h⟩)
  · omega
  · have := h4 s hs; omega

theorem verify_prove (ps : List (List UInt8 × List UInt8)) (key : List UInt8) (hk : ∀ p ∈ ps, p.1.length ≤ 6) (hv : ∀ p ∈ ps, p.2.length ≤ 40) (h6 : key.length ≤ 6) : verify (sum (Itm.enc (node 13 (table ps)))) key (prove ps key) = (value ps key, !(value ps key).isEmpty, 0) := by
  rw [verify_ok (sum_len _) h6 (Nat.le_trans (prove_len ps key hk hv) (by decide)) (fun s hs => Nat.le_trans (prove_small ps key hk hv s hs) (by decide))]
  obtain ⟨w, h1, h2, h3, h4⟩ := prove_loop ps key hk hv
  rw [h1]
  unfold verEnd
  dsimp only
  rw [if_pos h2, h3, h4]

end Tr
end Go.Proofs.Ytbmohenjphmlgaa

/- Plain mathematics of trees: the digits of a way are those of the key; how great an item is that was read. -/
namespace Go.Proofs.Ytbmohenjphmlgaa
set_option maxRecDepth 100000

theorem Itm.wt_le_enc (t : Itm) : Itm.pure t = true → Itm.wt t ≤ 11 * (Itm.enc t).length := by
  refine Itm.ind (p := fun t => Itm.pure t = true → Itm.wt t ≤ 11 * (Itm.enc t).length) ?_ t
  intro t ih hp
  rw [Itm.pure_eq] at hp
  simp only [Bool.and_eq_true] at hp
  obtain ⟨hp1, hp2⟩ := hp
  rw [Itm.wt_eq, Itm.enc_eq]
  by_cases hl : t.list
  · rw [if_pos hl] at hp1 ⊢
    have hb : t.bytes = [] := by simpa using hp1
    have h1 := Itm.headed_len 192 (t.items.flatMap Itm.enc)
    have h2 : ∀ l : List Itm, (∀ x ∈ l, Itm.wt x ≤ 11 * (Itm.enc x).length) → (l.map Itm.wt).sum ≤ 11 * (l.flatMap Itm.enc).length := by
      intro l
      induction l with
      | nil => intro _; simp
      | cons x l ihl =>
        intro hx
        have a1 := hx x (by simp)
        have a2 := ihl (fun y hy => hx y (by simp [hy]))
        simp only [List.map_cons, List.sum_cons, List.flatMap_cons, List.length_append]
        omega
    have h3 := h2 t.items (fun x hx => ih x hx (by simp only [List.all_eq_true] at hp2; exact hp2 x hx))
    rw [hb]
    simp only [List.length_nil]
    omega
  · rw [if_neg hl] at hp1 ⊢
    have h0 : t.items = [] := by simpa using hp1
    rw [h0]
    simp only [List.map_nil, List.sum_nil]
    have hle : t.bytes.length ≤ (Itm.encB t.bytes).length := by
      unfold Itm.encB
      split
      · exact Nat.le_refl _
      · have := Itm.headed_len 128 t.bytes; omega
    have hpos : 0 < (Itm.encB t.bytes).length := by
      have hne := Itm.enc_ne t
      rw [Itm.enc_eq, if_neg hl] at hne
      exact List.length_pos_iff.2 hne
    omega


end Go.Proofs.Ytbmohenjphmlgaa

/- The walk of reference (of the document's own answer), given that of node; the entries behind what they share. -/
namespace Go.Proofs.Ytbmohenjphmlgaa
open Go.RowKit
set_option maxRecDepth 100000

/-- node answers as the document says, with so many steps down. -/
def NodeAt (f : Nat) : Prop := ∀ (l : List Tr.Ent) (a : Option Addr) (cap : Nat) (w : World), ERd w.heap.size w a l → Tr.Fits f l → Tr.Apart l → l.length ≤ 60 → Calls Try.prog 55 #[.slice a l.length cap] w (NodePost (f + 1) (Tr.node f l) w)

/-- The same of reference. -/
def RefAt (f : Nat) : Prop := ∀ (l : List Tr.Ent) (a : Option Addr) (cap : Nat) (w : World), ERd w.heap.size w a l → Tr.Fits f l → Tr.Apart l → l.length ≤ 60 → Calls Try.prog 77 #[.slice a l.length cap] w (NodePost (f + 1) (Tr.ref (Tr.node f l)) w)

theorem node_wt (f : Nat) (l : List Tr.Ent) (hf : f ≤ 100) (h : Tr.Fits f l) : Itm.wt (Tr.node f l) ≤ 1000000000 := by
  have h1 := Itm.wt_le_enc _ (Tr.node_pure f l)
  have h2 := Tr.node_len f l hf h
  omega

set_option maxHeartbeats 1600000 in
theorem refR_any {f : Nat} (hf : f ≤ 100) (hN : NodeAt f) : RefAt f := by
  intro l a cap w hr hfit hap hl
  have HN := hid (fun w' (b : Below w.heap.size w w') => hN l a cap w' ((hr.later b).wider b.size) hfit hap hl)
  have HWT := hid (node_wt f l hf hfit)
  have HLEN : Hid ((Itm.enc (Tr.node f l)).length ≤ 1000000000) := Nat.le_trans (Tr.node_len f l hf hfit) (by decide)
  have HBI := hid (fun s w => bytesItemR_any s w)
  have HRF : Hid (Tr.ref (Tr.node f l) = if (Itm.enc (Tr.node f l)).length < 8 then Tr.node f l else Tr.itB (Tr.sum (Itm.enc (Tr.node f l)))) := rfl
  generalize Tr.node f l = t at *
  clear hr hfit hap hl hN
  go_enter Try.func77, Try.ntmps77
  go_wp2_with fail
  have HBA : Hid (Below w.heap.size w (w.alloc (.cells #[.bool false, .string ⟨#[]⟩, .slice none 0 0] 24))) := (Below.refl _ _).alloc (Nat.le_refl _) _
  refine (HN.out _ HBA.out).mono ?_
  rintro e w1 ⟨v1, rfl, o1, b1⟩
  obtain ⟨a1, c1, rfl⟩ := ow_shape o1
  have hR1 := old_block b1
  have HB1 : Hid (Below w.heap.size w w1) := HBA.out.trans (b1.mono HBA.out.size)
  have HO1 := hid o1
  have HRP := hid (rep_of_own _ _ _ _ _ (Nat.le_refl _) o1)
  have hsz1 : w.heap.size < w1.heap.size := (Array.getElem?_eq_some_iff.1 hR1).1
  have hne : ¬ w.heap.size = w1.heap.size := by omega
  clear o1 b1
  have HBX : Hid (Below w1.heap.size w1 (w1.alloc (.cells #[.bool t.list, .string ⟨t.bytes.toArray⟩, .slice a1 t.items.length c1] 24))) := (Below.refl _ _).alloc (Nat.le_refl _) _
  go_wp2_with fail
  refine (bytesR_any _ _ t _ (rep_later HBX.out HRP.out) HWT.out).mono ?_
  rintro e w2 ⟨rfl, b2⟩
  have hX2 := old_block b2
  have HB2 : Hid (Below w1.heap.size w1 w2) := HBX.out.trans (b2.mono HBX.out.size)
  have hR2 := (HB2.out.block _ hsz1).trans hR1
  clear b2
  obtain ⟨E, hE⟩ : ∃ E : ByteArray, E = ⟨(Itm.enc t).toArray⟩ := ⟨_, rfl⟩
  have hEs : E.size = (Itm.enc t).length := by rw [hE]; exact List.size_toArray ..
  have HES := hid hEs
  have HEd : Hid (E.data.toList = Itm.enc t) := by rw [Hid, hE]
  rw [← hE]
  clear hE
  by_cases h8 : (Itm.enc t).length < 8
  · rw [if_pos h8] at HRF
    have i8 : (E.size : Int) < 8 := by omega
    have x0 := (cell_of_row _ _ 0 _ _ _ hX2).trans rfl
    have x1 := (cell_of_row _ _ 1 _ _ _ hX2).trans rfl
    have x2 := (cell_of_row _ _ 2 _ _ _ hX2).trans rfl
    have r0 := (cell_of_row _ _ 0 _ _ _ hR2).trans rfl
    have r1 := (cell_of_row _ _ 1 _ _ _ hR2).trans rfl
    have r2 := (cell_of_row _ _ 2 _ _ _ hR2).trans rfl
    have g0 := frozen_of_row _ _ 0 _ _ hR2
    have g1 := frozen_of_row _ _ 1 _ _ hR2
    have g2 := frozen_of_row _ _ 2 _ _ hR2
    clear hEs h8
    go_wp2_with fail
    obtain ⟨z0, z1, z2⟩ := set3 hR2 (.bool t.list) (.string ⟨t.bytes.toArray⟩) (.slice a1 t.items.length c1)
    refine bodyPost_ret (v := .agg #[.bool t.list, .string ⟨t.bytes.toArray⟩, .slice a1 t.items.length c1]) (by simp [results, Try.results77, go_sem, z0, z1, z2]) rfl ⟨_, rfl, ?_, three_below (HB1.out.trans (HB2.out.mono HB1.out.size)) (Nat.le_refl _) _ _ _⟩
    rw [HRF.out]
    have hsz : (((w2.setCell ⟨w.heap.size, 0, none⟩ (.bool t.list)).setCell ⟨w.heap.size, 1, none⟩ (.string ⟨t.bytes.toArray⟩)).setCell ⟨w.heap.size, 2, none⟩ (.slice a1 t.items.length c1)).heap.size = w2.heap.size := by simp [World.setCell]
    rw [hsz]
    have ho := HO1.out
    rw [alloc_size] at ho
    refine own_widen (own_frame _ _ _ _ _ (fun k hk hk2 => ?_) ho) (Nat.le_succ _) HB2.out.size
    rw [setCell_block _ _ _ _ (by show k ≠ w.heap.size; omega), setCell_block _ _ _ _ (by show k ≠ w.heap.size; omega), setCell_block _ _ _ _ (by show k ≠ w.heap.size; omega)]
    exact HB2.out.block k hk2
  · rw [if_neg h8] at HRF
    have i8 : ¬ (E.size : Int) < 8 := by omega
    have HSM := hid (fun w => sumR_any E w (by rw [HES.out]; exact HLEN.out))
    have hsz2 : w.heap.size < w2.heap.size := Nat.lt_of_lt_of_le hsz1 HB2.out.size
    clear hEs h8
    go_wp2_with fail
    refine (HSM.out _).mono ?_
    rintro e w3 ⟨rfl, b3⟩
    have hR3 := (b3.block _ hsz2).trans hR2
    have HB3 : Hid (Below w1.heap.size w1 w3) := HB2.out.trans (b3.mono HB2.out.size)
    have hsz3 : w.heap.size < w3.heap.size := Nat.lt_of_lt_of_le hsz2 b3.size
    clear b3
    go_wp2_with fail
    refine (HBI.out _ _).mono ?_
    rintro e w4 ⟨rfl, b4⟩
    have hR4 := (b4.block _ hsz3).trans hR3
    have HB4 : Hid (Below w1.heap.size w1 w4) := HB3.out.trans (b4.mono HB3.out.size)
    have r0 := (cell_of_row _ _ 0 _ _ _ hR4).trans rfl
    have r1 := (cell_of_row _ _ 1 _ _ _ hR4).trans rfl
    have r2 := (cell_of_row _ _ 2 _ _ _ hR4).trans rfl
    have g0 := frozen_of_row _ _ 0 _ _ hR4
    have g1 := frozen_of_row _ _ 1 _ _ hR4
    have g2 := frozen_of_row _ _ 2 _ _ hR4
    clear b4
    go_wp2_with fail
    obtain ⟨z0, z1, z2⟩ := set3 hR4 (.bool false) (.string ⟨(Tr.sum E.data.toList).toArray⟩) (.slice none 0 0)
    refine bodyPost_ret (v := .agg #[.bool false, .string ⟨(Tr.sum E.data.toList).toArray⟩, .slice none 0 0]) (by simp [results, Try.results77, go_sem, z0, z1, z2]) rfl ⟨_, rfl, ?_, three_below (HB1.out.trans (HB4.out.mono HB1.out.size)) (Nat.le_refl _) _ _ _⟩
    rw [HRF.out]
    exact ow_bytes _ _ _ _ _ _ (by rw [HEd.out])
end Go.Proofs.Ytbmohenjphmlgaa
