/- Part 31 of a proof: what the last text needs. -/
import Derived.Test.YtbmohenjphmlgaaPart30
/- The walk of Prove (of the document's own answer). -/
namespace Go.Proofs.Ytbmohenjphmlgaa
open Go.RowKit
set_option maxRecDepth 100000

/-- What Prove tells of a table that may be. -/
def PvPost (w : World) (goal : List (List UInt8)) (e : Ending) (w' : World) : Prop := ∃ r, e = .returned (.tuple #[r, .int .i64 0]) ∧ TOwn w' w.heap.size r (goal.map toB) ∧ Below w.heap.size w w'

theorem town_drewN {w : World} {B : Nat} {v : Value} {l : List ByteArray} (n : Nat) (h : TOwn w B v l) : TOwn (w.drewN n) B v l := h

theorem take_step (sh K : List UInt8) (m : Nat) (h : K.take sh.length = sh) (hm : m < sh.length) (hk : m < K.length) : sh.take m ++ [K[m]] = sh.take (m + 1) := by
  rw [List.take_succ_eq_append_getElem hm]
  congr 2
  have h1 : (K.take sh.length)[m]? = sh[m]? := by rw [h]
  rw [List.getElem?_take_of_lt hm, List.getElem?_eq_getElem hk, List.getElem?_eq_getElem hm] at h1
  exact Option.some.inj h1

set_option maxHeartbeats 25600000 in
theorem refProve_main (a : Option Addr) (cap : Nat) (l : List (ByteArray × ByteArray)) (key : ByteArray) (w : World) (hr : PRd w.heap.size w a l) (hl : l.length ≤ 4398046511104) (hf : tfault l ⟨#[]⟩ = 0) (hk : ¬ 6 < key.size) :
    Calls Try.prog 28 #[.slice a l.length cap, .string key] w (PvPost w (Tr.prove (lists l) key.data.toList)) := by
  have HT := hid (tableR_any a cap l w hr hl)
  have HF := hid hf
  obtain ⟨h1, h2, _, h4⟩ := fault_none hf
  have hkk := lists_ok h2 h4
  have HFIT := hid (Tr.table_fits _ hkk.1 hkk.2)
  have HTL : Hid ((Tr.table (lists l)).length ≤ 60) := Nat.le_trans (table_len l) h1
  have HDG := hid (fun w => digits_any key w (by omega))
  have HD16 := hid (Tr.digits_lt key.data.toList)
  have hdl : (Tr.digits key.data.toList).length ≤ 1000 := by rw [Tr.digits_len, ba_len]; omega
  have HGL : Hid ((Tr.prove (lists l) key.data.toList).length ≤ 1000) := Nat.le_trans (Tr.prove_len _ _ hkk.1 hkk.2) (by decide)
  have hk' : (key.size : Int) ≤ 6 := by omega
  have HGO : Hid (Tr.prove (lists l) key.data.toList = Itm.enc (Tr.node 13 (Tr.table (lists l))) :: Tr.elems 13 (Tr.table (lists l)) (Tr.digits key.data.toList)) := rfl
  obtain ⟨goal, hgoal⟩ : ∃ goal, goal = Tr.prove (lists l) key.data.toList := ⟨_, rfl⟩
  rw [← hgoal] at HGL HGO ⊢
  clear hgoal hr hl hf hk h1 h2 h4 hkk
  have HAP := hid (Tr.table_apart (lists l))
  have HDL := hid hdl
  clear hdl
  go_enter Try.func28, Try.ntmps28
  go_wp2_with fail
  refine HT.out.mono ?_
  rintro e w1 ⟨b1, _, h1⟩
  obtain ⟨a1, c1, rfl, r1⟩ := h1 HF.out
  have HR1 := hid r1
  have HB1 := hid b1
  clear h1 r1 b1 HT HF
  generalize Tr.table (lists l) = T at *
  generalize Tr.digits key.data.toList = D at *
  go_wp2_with fail
  refine (HDG.out _).mono ?_
  rintro e w2 ⟨ad, cd, rfl, hown, b2⟩
  have HB2 : Hid (Below w.heap.size w w2) := HB1.out.trans (b2.mono HB1.out.size)
  have HST0 : Hid (PvSt w goal w2 13 T D [] true (.slice none 0 0) a1 ad cd) := by
    refine ⟨((HR1.out.later b2).wider b2.size).erdQ (fun _ _ h => by cases h), (brdC_of_bown hown).brdX (fun _ _ h => by cases h), HFIT.out, HAP.out, HTL.out, Nat.le_refl _, HD16.out, HDL.out, town_nil _ _, HB2.out, ?_⟩
    rw [HGO.out]
    rfl
  clear hown b2 HDG HD16 HDL HFIT HTL HR1 HGO HAP
  go_wp2_with fail
  go_loopw [6, 8, 9, 10] (fun vL vo vk fi wr => ∃ (f : Nat) (L : List Tr.Ent) (K : List UInt8) (done : List (List UInt8)) (first : Bool) (aL : Option Addr) (cL : Nat) (ak : Option Addr) (ck : Nat), vL = .slice aL L.length cL ∧ vk = .slice ak K.length ck ∧ fi = .bool first ∧ Hid (PvSt w goal wr f L K done first vo aL ak ck)) (fun _ _ vk _ _ => (match vk with | .slice _ n _ => n | _ => 0))
  case atStart => exact ⟨13, T, D, [], true, a1, c1, ad, cd, rfl, rfl, rfl, HST0.out⟩
  case round =>
    obtain ⟨f, L, K, done, first, aL, cL, ak, ck, rfl, rfl, rfl, HST⟩ := hrel
    obtain ⟨av, cv, hv, _⟩ := town_shape HST.out.own
    rw [List.length_map] at hv
    subst hv
    have HN := hid (nodeAt_all f (by have := HST.out.f13; omega) L aL cL wr HST.out.er.erd HST.out.fit HST.out.ap HST.out.len)
    have HWT := hid (node_wt f L (by have := HST.out.f13; omega) HST.out.fit)
    have hdn : done.length ≤ 1000 := by
      have h := congrArg List.length HST.out.eq
      rw [List.length_append] at h
      have := HGL.out
      omega
    have HDN : Hid ((done.map toB).length ≤ 1000000) := by rw [Hid, List.length_map]; omega
    go_wp2_with fail
    refine HN.out.mono ?_
    rintro e w3 ⟨v3, rfl, o3, b3⟩
    have HRP := hid (rep_of_own _ _ _ _ _ (Nat.le_refl _) o3)
    have HB3 := hid b3
    clear o3 b3 HN
    go_wp2_with fail
    refine (bytesR_any _ _ _ _ HRP.out HWT.out).mono ?_
    rintro e w4 ⟨rfl, b4⟩
    have HB4 : Hid (Below wr.heap.size wr w4) := HB3.out.trans (b4.mono HB3.out.size)
    obtain ⟨E, hE⟩ : ∃ E : ByteArray, E = toB (Itm.enc (Tr.node f L)) := ⟨_, rfl⟩
    have hEs : E.size = (Itm.enc (Tr.node f L)).length := by rw [hE]; exact List.size_toArray ..
    have HEE := hid hE
    have hE' : (⟨(Itm.enc (Tr.node f L)).toArray⟩ : ByteArray) = E := hE.symm
    rw [hE']
    clear hE hE' b4 HB3 HRP
    have HER4 := hid (erdQ_turn HST.out.er HB4.out.size (fun _ _ h => h) (fun x hx _ => HB4.out.block x hx))
    have HKD4 := hid (brdX_turn HST.out.kd HB4.out.size (fun _ _ h => h) (fun x hx _ => HB4.out.block x hx))
    have HOW4 := hid (town_later HST.out.own HB4.out)
    have HBW4 : Hid (Below w.heap.size w w4) := HST.out.bel.trans (HB4.out.mono HST.out.bel.size)
    have hws4 := HBW4.out.size
    cases first with
    | true =>
      have HAD : Hid (adds f L true = [Itm.enc (Tr.node f L)]) := rfl
      have HML5 : Hid (((done ++ [Itm.enc (Tr.node f L)]).map toB).length = done.length + 1) := by rw [Hid, List.length_map, List.length_append]; rfl
      by_cases hL1 : L.length ≤ 1
      · have i1 : (L.length : Int) ≤ 1 := by omega
        have HDONE : Hid (done ++ [Itm.enc (Tr.node f L)] = goal) := by
          have h := HST.out.eq
          rw [HAD.out, elems_short hL1, List.append_nil] at h
          exact h
        go_wp2_with (at_builtin; go_loud (refine wpList_push_textQ rfl (.tmp 45) (.tmp 47) rfl E w4.heap.size rfl rfl rfl HOW4.out hws4 HDN.out ?_); intro v5 W5 ho5 hb5 hk5 hn5 hz5; have ho5 : TOwn W5 w.heap.size v5 ((done ++ [Itm.enc (Tr.node f L)]).map toB) := (by rw [List.map_append]; rw [HEE.out] at ho5; exact ho5); obtain ⟨a5, c5, hv5, _⟩ := town_shape ho5; rw [HML5.out] at hv5; subst hv5; have HOW5 := hid ho5; have HB5 := hid hb5; have HER5 := hid (erdQ_turn (P' := fun x => (Value.slice a5 (done.length + 1) c5).ownBlock ≠ some x) HER4.out hz5 (fun x hx hp e => (hn5 x e).elim hp (fun h => by omega)) (fun x hx hp => hk5 x hx hp)); have HKD5 := hid (brdX_turn (P' := fun x => (Value.slice a5 (done.length + 1) c5).ownBlock ≠ some x) HKD4.out hz5 (fun x hx hp e => (hn5 x e).elim hp (fun h => by omega)) (fun x hx hp => hk5 x hx hp)); clear ho5 hb5 hk5 hn5 hz5)
        have HBW5 : Hid (Below w.heap.size w W5) := HBW4.out.trans HB5.out
        have HOX := hid HOW5.out
        have HBX := hid HBW5.out
        refine bodyPost_ret (v := .tuple #[.slice a5 (done.length + 1) c5, .int .i64 0]) (by simp [results, Try.results28, go_sem]) rfl ⟨_, rfl, ?_, HBX.out⟩
        rw [← HDONE.out]
        exact HOX.out
      · have i1 : ¬ (L.length : Int) ≤ 1 := by omega
        have HEQ5 : Hid ((done ++ [Itm.enc (Tr.node f L)]) ++ Tr.elems f L K = goal) := by
          have h := HST.out.eq
          rw [HAD.out, ← List.append_assoc] at h
          exact h
        go_wp2_with (at_builtin; go_loud (refine wpList_push_textQ rfl (.tmp 45) (.tmp 47) rfl E w4.heap.size rfl rfl rfl HOW4.out hws4 HDN.out ?_); intro v5 W5 ho5 hb5 hk5 hn5 hz5; have ho5 : TOwn W5 w.heap.size v5 ((done ++ [Itm.enc (Tr.node f L)]).map toB) := (by rw [List.map_append]; rw [HEE.out] at ho5; exact ho5); obtain ⟨a5, c5, hv5, _⟩ := town_shape ho5; rw [HML5.out] at hv5; subst hv5; have HOW5 := hid ho5; have HB5 := hid hb5; have HER5 := hid (erdQ_turn (P' := fun x => (Value.slice a5 (done.length + 1) c5).ownBlock ≠ some x) HER4.out hz5 (fun x hx hp e => (hn5 x e).elim hp (fun h => by omega)) (fun x hx hp => hk5 x hx hp)); have HKD5 := hid (brdX_turn (P' := fun x => (Value.slice a5 (done.length + 1) c5).ownBlock ≠ some x) HKD4.out hz5 (fun x hx hp e => (hn5 x e).elim hp (fun h => by omega)) (fun x hx hp => hk5 x hx hp)); clear ho5 hb5 hk5 hn5 hz5)
        have HBW5 : Hid (Below w.heap.size w W5) := HBW4.out.trans HB5.out
        obtain ⟨done5, hd5⟩ : ∃ done5, done5 = done ++ [Itm.enc (Tr.node f L)] := ⟨_, rfl⟩
        rw [← hd5] at HEQ5 HOW5
        clear hd5 HER4 HKD4 HOW4 HB4 HAD HEE
        obtain ⟨x0, x1, rr, hLx⟩ : ∃ x0 x1 rr, L = x0 :: x1 :: rr := by
          match L, hL1 with
          | x0 :: x1 :: rr, _ => exact ⟨x0, x1, rr, rfl⟩
          | [x0], h => simp at h
          | [], h => simp at h
        have HLX := hid hLx
        obtain ⟨f', hf'⟩ : ∃ f', f = f' + 1 := by
          have := Tr.fits_pos HST.out.fit (by rw [hLx]; simp)
          exact ⟨f - 1, by omega⟩
        have HFF := hid hf'
        have HDLL : Hid (∀ e ∈ L, e.dig.length ≤ 1000000) := fun e he => by have := (HST.out.fit e he).1; have := HST.out.f13; omega
        have HCM : Hid (Calls Try.prog 59 #[.slice aL L.length cL] W5 fun e w' => e = .returned (.int .i64 ((Tr.shared L).length : Nat)) ∧ Below W5.heap.size W5 w') := by
          have her := HER5.out.erd
          have hdd := HDLL.out
          have hll := HST.out.len
          subst hLx
          exact commonR_any aL cL x0 (x1 :: rr) W5 her (by simp at hll ⊢; omega) hdd
        have hown5 := town_lt HOW5.out
        clear hLx hf'
        go_wp2_with fail
        refine HCM.out.mono ?_
        rintro e W6 ⟨rfl, b6⟩
        have HB6 : Hid (Below W5.heap.size W5 W6) := b6
        have HER6 := hid (erdQ_turn HER5.out HB6.out.size (fun _ _ h => h) (fun x hx _ => HB6.out.block x hx))
        have HKD6 := hid (brdX_turn HKD5.out HB6.out.size (fun _ _ h => h) (fun x hx _ => HB6.out.block x hx))
        have HOW6 := hid (town_later HOW5.out HB6.out)
        have HBW6 : Hid (Below w.heap.size w W6) := HBW5.out.trans (HB6.out.mono HBW5.out.size)
        clear b6 HCM HB6
        by_cases hsh : Tr.shared L = []
        · have hsl : (Tr.shared L).length = 0 := by rw [hsh]; rfl
          have HFK : Hid (Tr.Forks L) := ⟨x0, x1, rr, HLX.out, hsh⟩
          rw [hsl]
          clear hsl hsh
          cases K with
          | nil =>
            have HDONE : Hid (done5 = goal) := by
              rw [Hid, ← HEQ5.out, HFF.out, Tr.elems_end f' HFK.out, List.append_nil]
            have HOX := hid HOW6.out
            have HBX := hid HBW6.out
            clear HST HER5 HKD5 HER6 HKD6 HOW6 HOW5
            go_wp2_with fail
            refine bodyPost_ret (v := .tuple #[.slice a5 (done.length + 1) c5, .int .i64 0]) (by simp [results, Try.results28, go_sem]) rfl ⟨_, rfl, ?_, HBX.out⟩
            rw [← HDONE.out]
            exact HOX.out
          | cons c K' =>
            have HEQ6 : Hid (done5 ++ (adds f' (Tr.behind [c] L) false ++ Tr.elems f' (Tr.behind [c] L) K') = goal) := by
              rw [Hid, ← HEQ5.out, HFF.out, Tr.elems_fork f' HFK.out, adds_next]
            have HFIT' : Hid (Tr.Fits f' (Tr.behind [c] L)) := by
              have h := HST.out.fit
              rw [HFF.out] at h
              exact h.behind (by simp)
            have HAP' : Hid (Tr.Apart (Tr.behind [c] L)) := HST.out.ap.behind
            have HLEN' : Hid ((Tr.behind [c] L).length ≤ 60) := Nat.le_trans (behind_len _ _) HST.out.len
            have HF' : Hid (f' ≤ 13) := by have h1 := HFF.out; have h2 := HST.out.f13; rw [Hid]; omega
            have HK16' : Hid (∀ x ∈ K', x.toNat < 16) := fun x hx => HST.out.k16 x (List.mem_cons_of_mem _ hx)
            have HKL' : Hid (K'.length ≤ 1000) := by have h := HST.out.klen; simp only [List.length_cons] at h; rw [Hid]; omega
            rcases HKD6.out with ⟨_, h⟩ | ⟨bk, ok, ck', hvk, hcapk, hltk, hpk, hcellk⟩
            · cases h
            simp only [Value.slice.injEq] at hvk
            obtain ⟨hvk, _, hcc⟩ := hvk
            subst hvk
            subst hcc
            have HKX := hid (fun a' ha => brdX_drop (P := fun x => (Value.slice a5 (done.length + 1) c5).ownBlock ≠ some x) (n := 1) (a' := a') (.inr ⟨bk, ok, ck, rfl, hcapk, hltk, hpk, hcellk⟩) (by simp) ha)
            simp only [List.drop_succ_cons, List.drop_zero, List.length_cons, Nat.add_sub_cancel] at HKX
            have g0 : W6.cell? ⟨bk, ok, none⟩ = some (.int .u8 (c.toNat : Nat)) := by
              have := hcellk 0 (by simp)
              simpa using this
            have hown6 := town_lt HOW6.out
            have HBE := hid (behindQ_any (fun x => (Value.slice a5 (done.length + 1) c5).ownBlock ≠ some x) aL cL L c W6 (fun b hb e => by have := (hown6 b e).2; omega) HER6.out (by have := HST.out.len; omega) HDLL.out)
            have k1 : (0 : Int) < (K'.length : Int) + 1 := by omega
            have k2 : (1 : Int) ≤ (K'.length : Int) + 1 := by omega
            have k3 : ¬ (K'.length : Int) + 1 = 0 := by omega
            have HKS := hid hcapk
            clear HST HER5 HKD5 HER6 HKD6 HOW5 hcellk hcapk hpk hown6 hown5 HBW5
            go_wp2_with fail
            refine HBE.out.mono ?_
            rintro e W7 ⟨aL', cL', rfl, r7, b7⟩
            have HER7 := hid r7
            have HB7 := hid b7
            have HOW7 := hid (town_later HOW6.out b7)
            have HBW7 : Hid (Below w.heap.size w W7) := HBW6.out.trans (b7.mono HBW6.out.size)
            clear r7 b7 HBE g0
            by_cases hck : ck = 1
            · have HKX7 := hid (brdX_turn (HKX.out _ (if_pos hck).symm) HB7.out.size (fun _ _ h => h) (fun x hx _ => HB7.out.block x hx))
              subst hck
              simp only [Nat.sub_self] at HKX7
              by_cases hL' : Tr.behind [c] L = []
              · have HDONE : Hid (done5 = goal) := by
                  have h := HEQ6.out
                  rw [hL', adds_nil, elems_short (by simp)] at h
                  rw [Hid]
                  simpa using h
                have hl0 : (Tr.behind [c] L).length = 0 := by rw [hL']; rfl
                have HOX := hid HOW7.out
                have HBX := hid HBW7.out
                rw [hl0]
                clear hl0 hL' HKX7 HKX HER7 HOW7 HEQ6 HFIT' HAP' HLEN' HK16' HKL'
                go_wp2_with fail
                refine bodyPost_ret (v := .tuple #[.slice a5 (done.length + 1) c5, .int .i64 0]) (by simp [results, Try.results28, go_sem]) rfl ⟨_, rfl, ?_, HBX.out⟩
                rw [← HDONE.out]
                exact HOX.out
              · have i7 : ¬ ((Tr.behind [c] L).length : Int) = 0 := by
                  intro h
                  exact hL' (List.eq_nil_of_length_eq_zero (by omega))
                clear hL'
                go_wp2_with fail
                exact ⟨⟨f', Tr.behind [c] L, K', done5, false, aL', cL', some ⟨bk, ok, none⟩, 0, rfl, rfl, rfl, ⟨HER7.out, HKX7.out, HFIT'.out, HAP'.out, HLEN'.out, HF'.out, HK16'.out, HKL'.out, HOW7.out, HBW7.out, HEQ6.out⟩⟩, by simp⟩
            · have HKX7 := hid (brdX_turn (HKX.out _ (if_neg hck).symm) HB7.out.size (fun _ _ h => h) (fun x hx _ => HB7.out.block x hx))
              by_cases hL' : Tr.behind [c] L = []
              · have HDONE : Hid (done5 = goal) := by
                  have h := HEQ6.out
                  rw [hL', adds_nil, elems_short (by simp)] at h
                  rw [Hid]
                  simpa using h
                have hl0 : (Tr.behind [c] L).length = 0 := by rw [hL']; rfl
                have HOX := hid HOW7.out
                have HBX := hid HBW7.out
                rw [hl0]
                clear hl0 hL' HKX7 HKX HER7 HOW7 HEQ6 HFIT' HAP' HLEN' HK16' HKL'
                go_wp2_with fail
                refine bodyPost_ret (v := .tuple #[.slice a5 (done.length + 1) c5, .int .i64 0]) (by simp [results, Try.results28, go_sem]) rfl ⟨_, rfl, ?_, HBX.out⟩
                rw [← HDONE.out]
                exact HOX.out
              · have i7 : ¬ ((Tr.behind [c] L).length : Int) = 0 := by
                  intro h
                  exact hL' (List.eq_nil_of_length_eq_zero (by omega))
                clear hL'
                go_wp2_with fail
                exact ⟨⟨f', Tr.behind [c] L, K', done5, false, aL', cL', some ⟨bk, ok + 1, none⟩, (ck - 1), rfl, rfl, rfl, ⟨HER7.out, HKX7.out, HFIT'.out, HAP'.out, HLEN'.out, HF'.out, HK16'.out, HKL'.out, HOW7.out, HBW7.out, HEQ6.out⟩⟩, by simp⟩
        · have HEX : Hid (Tr.elems f L K = if (Tr.shared L).isPrefixOf K then Itm.enc (Tr.node f' (Tr.behind (Tr.shared L) L)) :: Tr.elems f' (Tr.behind (Tr.shared L) L) (K.drop (Tr.shared L).length) else []) := by
            rw [Hid, HFF.out]
            exact Tr.elems_ext f' HLX.out hsh K
          have HFIT' : Hid (Tr.Fits f' (Tr.behind (Tr.shared L) L)) := by
            have h := HST.out.fit
            rw [HFF.out] at h
            exact h.behind hsh
          have HAP' : Hid (Tr.Apart (Tr.behind (Tr.shared L) L)) := HST.out.ap.behind
          have HLEN' : Hid ((Tr.behind (Tr.shared L) L).length ≤ 60) := Nat.le_trans (behind_len _ _) HST.out.len
          have HF' : Hid (f' ≤ 13) := by have h1 := HFF.out; have h2 := HST.out.f13; rw [Hid]; omega
          have HAD' : Hid (adds f' (Tr.behind (Tr.shared L) L) false = [Itm.enc (Tr.node f' (Tr.behind (Tr.shared L) L))]) := by
            have hfk := Tr.forks_behind HLX.out
            have hp : 1 ≤ f' := by
              obtain ⟨a', b', r', hb', _⟩ := hfk
              exact Tr.fits_pos HFIT'.out (by rw [hb']; simp)
            obtain ⟨f2, rfl⟩ : ∃ f2, f' = f2 + 1 := ⟨f' - 1, by omega⟩
            rw [Hid, adds_next, if_neg (Tr.fork_long f2 hfk)]
          have hpre := Tr.shared_pre L x0 (by rw [HLX.out]; simp)
          have HPT : Hid (x0.dig.take (Tr.shared L).length = Tr.shared L) := (List.prefix_iff_eq_take.1 hpre).symm
          have hple := hpre.length_le
          have hnz : ¬ ((Tr.shared L).length : Int) = 0 := by
            intro h
            exact hsh (List.eq_nil_of_length_eq_zero (by omega))
          have HSH := hid hsh
          generalize Tr.shared L = sh at *
          have hnpos : 0 < sh.length := by omega
          have hnb : ((sh.length : Int) == 0) = false := by rw [beq_eq_false_iff_ne]; exact hnz
          have hkl := HST.out.klen
          clear hpre hsh
          by_cases hkn : K.length < sh.length
          · have HDONE : Hid (done5 = goal) := by
              have h := HEQ5.out
              rw [HEX.out, if_neg, List.append_nil] at h
              · exact h
              · rw [List.isPrefixOf_iff_prefix]
                intro hh
                have := hh.length_le
                omega
            have i8 : (K.length : Int) < (sh.length : Int) := by omega
            have HOX := hid HOW6.out
            have HBX := hid HBW6.out
            clear HST HER5 HKD5 HER6 HKD6 HOW6 HOW5 HBW5 HEX HPT HAD' HEQ5 HFIT' HAP' HLEN' HF'
            go_wp2_with fail
            go_quiet (fail)
            go_wp2_with fail
            refine bodyPost_ret (v := .tuple #[.slice a5 (done.length + 1) c5, .int .i64 0]) (by simp [results, Try.results28, go_sem]) rfl ⟨_, rfl, ?_, below_drewN HBX.out _⟩
            rw [← HDONE.out]
            exact HOX.out
          · have i8 : ¬ (K.length : Int) < (sh.length : Int) := by omega
            rcases HKD6.out with ⟨_, h⟩ | ⟨bk, ok, ck', hvk, hcapk, hltk, hpk, hcellk⟩
            · have h0 : K.length = 0 := by rw [h]; rfl
              omega
            simp only [Value.slice.injEq] at hvk
            obtain ⟨hvk, _, hcc⟩ := hvk
            subst hvk
            subst hcc
            have HKC := hid hcellk
            have HKX := hid (fun a' ha => brdX_drop (P := fun x => (Value.slice a5 (done.length + 1) c5).ownBlock ≠ some x) (n := sh.length) (a' := a') (.inr ⟨bk, ok, ck, rfl, hcapk, hltk, hpk, hcellk⟩) (by omega) ha)
            obtain ⟨bl, ol, ad, cd, rfl, hbl, _, e0, _, hbr0⟩ := HER6.out 0 (by rw [HLX.out]; simp)
            have hget : ∀ h, L[0]'h = x0 := by
              intro h
              have hx : L[0]? = some x0 := by rw [HLX.out]; rfl
              rw [List.getElem?_eq_getElem h] at hx
              exact Option.some.inj hx
            rw [hget] at e0 hbr0
            simp only [Nat.zero_mul, Nat.add_zero] at e0
            have hcd : sh.length ≤ cd := by
              rcases hbr0 with ⟨hv, h0⟩ | ⟨_, _, cap', hv, hcap, _⟩
              · have h1 : x0.dig.length = 0 := by rw [h0]; rfl
                omega
              · simp only [Value.slice.injEq] at hv
                omega
            have hcD : BrdC W6.heap.size W6 (.slice ad sh.length cd) sh := by
              have h := brdC_take (n := sh.length) (hbr0.brdC (Nat.le_refl _)) hple
              rw [HPT.out] at h
              exact h
            have hcK : BrdC W6.heap.size W6 (.slice (some ⟨bk, ok, none⟩) sh.length ck) (K.take sh.length) := by
              have h := brdC_take (n := sh.length) (HKD6.out.brdC (Nat.le_refl _)) (by omega)
              rw [List.length_take, Nat.min_eq_left (by omega)] at h
              exact h
            obtain ⟨S1, hS1⟩ : ∃ S1 : ByteArray, S1 = ⟨(K.take sh.length).toArray⟩ := ⟨_, rfl⟩
            obtain ⟨S2, hS2⟩ : ∃ S2 : ByteArray, S2 = ⟨sh.toArray⟩ := ⟨_, rfl⟩
            have cv1 : ∀ q, (convert 76 9 (.slice (some ⟨bk, ok, none⟩) sh.length ck)).run Try.prog (W6.drewN q) = .ok (.string S1) (W6.drewN q) := by
              intro q
              rw [hS1]
              exact run_bytes_string (brdR_drewN q hcK.brd)
            have cv2 : ∀ q, (convert 76 9 (.slice ad sh.length cd)).run Try.prog (W6.drewN q) = .ok (.string S2) (W6.drewN q) := by
              intro q
              rw [hS2]
              exact run_bytes_string (brdR_drewN q hcD.brd)
            have hl2 : 2 ≤ L.length := by rw [HLX.out]; simp
            have i9 : (0 : Int) < (L.length : Int) := by omega
            have i10 : (sh.length : Int) ≤ (ck : Int) := by omega
            have i11 : (sh.length : Int) ≤ (cd : Int) := by omega
            by_cases heq : K.take sh.length = sh
            · have HPX : Hid (sh.isPrefixOf K = true) := by
                rw [Hid, List.isPrefixOf_iff_prefix]
                exact List.prefix_iff_eq_take.2 heq.symm
              have HEQ6 : Hid (done5 ++ (adds f' (Tr.behind sh L) false ++ Tr.elems f' (Tr.behind sh L) (K.drop sh.length)) = goal) := by
                have h := HEQ5.out
                rw [HEX.out, if_pos HPX.out] at h
                rw [Hid, HAD'.out]
                exact h
              have hbq : (S1.toList == S2.toList) = true := by rw [hS1, hS2, heq]; exact beq_self_eq_true _
              have HTK := hid heq
              have HK16' : Hid (∀ x ∈ K.drop sh.length, x.toNat < 16) := fun x hx => HST.out.k16 x (List.mem_of_mem_drop hx)
              have HLL := hid HST.out.len
              clear hget hcD hcK hS1 hS2 heq HPX HPT HEX HEQ5 HAD' hbr0 HST HER5 HKD5 HOW5 HBW5 HKD6 hcellk hown5 hple
              go_wp2_with fail
              go_quiet (fail)
              clear cv1 cv2 e0 hbq
              go_wp2_with fail
              go_loopw [6, 13] (fun vL i wi => ∃ (m : Nat) (aN : Option Addr) (cN : Nat), vL = .slice aN (Tr.behind (sh.take m) L).length cN ∧ i = .int .i64 m ∧ m ≤ sh.length ∧ Hid (ERdQ (fun x => (Value.slice a5 (done.length + 1) c5).ownBlock ≠ some x) wi.heap.size wi aN (Tr.behind (sh.take m) L) ∧ Below W6.heap.size W6 wi)) (fun _ i _ => sh.length - (intOf i).toNat)
              case atStart => exact ⟨0, some ⟨bl, ol, none⟩, cL, by rw [List.take_zero, behind_none], rfl, by omega, by rw [List.take_zero, behind_none]; exact ⟨HER6.out, below_drewN (Below.refl _ _) _⟩⟩
              case round =>
                obtain ⟨m, aN, cN, rfl, rfl, hm, HI⟩ := hrel
                by_cases hlt : m < sh.length
                · have hmk : m < K.length := by omega
                  have j1 : (m : Int) < (sh.length : Int) := by omega
                  have j2 : (m : Int) < (K.length : Int) := by omega
                  have g0 := (HI.out.2.cell (p := ⟨bk, ok + m, none⟩) hltk).trans (HKC.out m hmk)
                  have hlk : bk < wr.heap.size := Nat.lt_of_lt_of_le hltk HI.out.2.size
                  have hown6 := town_lt HOW6.out
                  have HBE := hid (behindQ_any (fun x => (Value.slice a5 (done.length + 1) c5).ownBlock ≠ some x) aN cN (Tr.behind (sh.take m) L) K[m] wr (fun b hb e => by have := (hown6 b e).2; have := HI.out.2.size; omega) HI.out.1 (by have := behind_len (sh.take m) L; have := HLL.out; omega) (fun e he => by obtain ⟨e1, he1, h2, _⟩ := Tr.behind_mem he; have := HDLL.out e1 he1; rw [h2, List.length_append] at this; omega))
                  rw [behind_step, take_step sh K m HTK.out hlt hmk] at HBE
                  generalize K[m] = c at *
                  clear hown6
                  go_wp2_with fail
                  refine HBE.out.mono ?_
                  rintro e W7 ⟨aN', cN', rfl, r7, b7⟩
                  have HR7 := hid r7
                  have HB7 := hid b7
                  clear r7 b7 HBE g0
                  go_wp2_with fail
                  exact ⟨⟨m + 1, aN', cN', rfl, by go_num, by omega, HR7.out, HI.out.2.trans (HB7.out.mono HI.out.2.size)⟩, by simp [intOf]; omega⟩
                · obtain rfl : m = sh.length := by omega
                  rw [List.take_length] at HI ⊢
                  have j1 : ¬ (sh.length : Int) < (sh.length : Int) := by omega
                  have j3 : (sh.length : Int) ≤ (K.length : Int) := by omega
                  have HOW7 := hid (town_later HOW6.out HI.out.2)
                  have HBW7 : Hid (Below w.heap.size w wr) := HBW6.out.trans (HI.out.2.mono HBW6.out.size)
                  have HKL' : Hid ((K.drop sh.length).length ≤ 1000) := by rw [Hid, List.length_drop]; omega
                  by_cases hck : ck = sh.length
                  · have HKX7 := hid (brdX_turn (HKX.out _ (if_pos hck).symm) HI.out.2.size (fun _ _ h => h) (fun x hx _ => HI.out.2.block x hx))
                    have hz : K.length - sh.length = 0 := by omega
                    subst hck
                    simp only [Nat.sub_self] at HKX7
                    go_wp2_with fail
                    exact ⟨⟨f', Tr.behind sh L, K.drop sh.length, done5, false, aN, cN, some ⟨bk, ok, none⟩, 0, rfl, by rw [List.length_drop, hz], rfl, ⟨HI.out.1, by rw [List.length_drop]; exact HKX7.out, HFIT'.out, HAP'.out, HLEN'.out, HF'.out, HK16'.out, HKL'.out, HOW7.out, HBW7.out, HEQ6.out⟩⟩, by show 0 < K.length; omega⟩
                  · have HKX7 := hid (brdX_turn (HKX.out _ (if_neg hck).symm) HI.out.2.size (fun _ _ h => h) (fun x hx _ => HI.out.2.block x hx))
                    go_wp2_with fail
                    exact ⟨⟨f', Tr.behind sh L, K.drop sh.length, done5, false, aN, cN, some ⟨bk, ok + sh.length, none⟩, ck - sh.length, rfl, by rw [List.length_drop], rfl, ⟨HI.out.1, by rw [List.length_drop]; exact HKX7.out, HFIT'.out, HAP'.out, HLEN'.out, HF'.out, HK16'.out, HKL'.out, HOW7.out, HBW7.out, HEQ6.out⟩⟩, by show K.length - sh.length < K.length; omega⟩
            · have HDONE : Hid (done5 = goal) := by
                have h := HEQ5.out
                rw [HEX.out, if_neg, List.append_nil] at h
                · exact h
                · rw [List.isPrefixOf_iff_prefix]
                  intro hh
                  exact heq (List.prefix_iff_eq_take.1 hh).symm
              have hbq : (S1.toList == S2.toList) = false := by
                rw [beq_eq_false_iff_ne, ByteArray.toList_eq, ByteArray.toList_eq, hS1, hS2]
                exact heq
              have HOX := hid HOW6.out
              have HBX := hid HBW6.out
              clear hget hcD hcK hS1 hS2 heq HPT HEX HEQ5 HAD' hbr0 HST HER5 HKD5 HOW5 HBW5 HKD6 hcellk hown5 hple HER6 HOW6 HKX HKC
              go_wp2_with fail
              go_quiet (fail)
              clear cv1 cv2 e0 hbq
              go_wp2_with fail
              refine bodyPost_ret (v := .tuple #[.slice a5 (done.length + 1) c5, .int .i64 0]) (by simp [results, Try.results28, go_sem]) rfl ⟨_, rfl, ?_, below_drewN HBX.out _⟩
              rw [← HDONE.out]
              exact HOX.out
    | false =>
      by_cases h8 : 8 ≤ (Itm.enc (Tr.node f L)).length
      · have HAD : Hid (adds f L false = [Itm.enc (Tr.node f L)]) := by rw [Hid, adds_next, if_neg (by omega)]
        have i0 : (8 : Int) ≤ (E.size : Int) := by omega
        have HML5 : Hid (((done ++ [Itm.enc (Tr.node f L)]).map toB).length = done.length + 1) := by rw [Hid, List.length_map, List.length_append]; rfl
        by_cases hL1 : L.length ≤ 1
        · have i1 : (L.length : Int) ≤ 1 := by omega
          have HDONE : Hid (done ++ [Itm.enc (Tr.node f L)] = goal) := by
            have h := HST.out.eq
            rw [HAD.out, elems_short hL1, List.append_nil] at h
            exact h
          go_wp2_with (at_builtin; go_loud (refine wpList_push_textQ rfl (.tmp 45) (.tmp 47) rfl E w4.heap.size rfl rfl rfl HOW4.out hws4 HDN.out ?_); intro v5 W5 ho5 hb5 hk5 hn5 hz5; have ho5 : TOwn W5 w.heap.size v5 ((done ++ [Itm.enc (Tr.node f L)]).map toB) := (by rw [List.map_append]; rw [HEE.out] at ho5; exact ho5); obtain ⟨a5, c5, hv5, _⟩ := town_shape ho5; rw [HML5.out] at hv5; subst hv5; have HOW5 := hid ho5; have HB5 := hid hb5; have HER5 := hid (erdQ_turn (P' := fun x => (Value.slice a5 (done.length + 1) c5).ownBlock ≠ some x) HER4.out hz5 (fun x hx hp e => (hn5 x e).elim hp (fun h => by omega)) (fun x hx hp => hk5 x hx hp)); have HKD5 := hid (brdX_turn (P' := fun x => (Value.slice a5 (done.length + 1) c5).ownBlock ≠ some x) HKD4.out hz5 (fun x hx hp e => (hn5 x e).elim hp (fun h => by omega)) (fun x hx hp => hk5 x hx hp)); clear ho5 hb5 hk5 hn5 hz5)
          have HBW5 : Hid (Below w.heap.size w W5) := HBW4.out.trans HB5.out
          have HOX := hid HOW5.out
          have HBX := hid HBW5.out
          refine bodyPost_ret (v := .tuple #[.slice a5 (done.length + 1) c5, .int .i64 0]) (by simp [results, Try.results28, go_sem]) rfl ⟨_, rfl, ?_, HBX.out⟩
          rw [← HDONE.out]
          exact HOX.out
        · have i1 : ¬ (L.length : Int) ≤ 1 := by omega
          have HEQ5 : Hid ((done ++ [Itm.enc (Tr.node f L)]) ++ Tr.elems f L K = goal) := by
            have h := HST.out.eq
            rw [HAD.out, ← List.append_assoc] at h
            exact h
          go_wp2_with (at_builtin; go_loud (refine wpList_push_textQ rfl (.tmp 45) (.tmp 47) rfl E w4.heap.size rfl rfl rfl HOW4.out hws4 HDN.out ?_); intro v5 W5 ho5 hb5 hk5 hn5 hz5; have ho5 : TOwn W5 w.heap.size v5 ((done ++ [Itm.enc (Tr.node f L)]).map toB) := (by rw [List.map_append]; rw [HEE.out] at ho5; exact ho5); obtain ⟨a5, c5, hv5, _⟩ := town_shape ho5; rw [HML5.out] at hv5; subst hv5; have HOW5 := hid ho5; have HB5 := hid hb5; have HER5 := hid (erdQ_turn (P' := fun x => (Value.slice a5 (done.length + 1) c5).ownBlock ≠ some x) HER4.out hz5 (fun x hx hp e => (hn5 x e).elim hp (fun h => by omega)) (fun x hx hp => hk5 x hx hp)); have HKD5 := hid (brdX_turn (P' := fun x => (Value.slice a5 (done.length + 1) c5).ownBlock ≠ some x) HKD4.out hz5 (fun x hx hp e => (hn5 x e).elim hp (fun h => by omega)) (fun x hx hp => hk5 x hx hp)); clear ho5 hb5 hk5 hn5 hz5)
          have HBW5 : Hid (Below w.heap.size w W5) := HBW4.out.trans HB5.out
          obtain ⟨done5, hd5⟩ : ∃ done5, done5 = done ++ [Itm.enc (Tr.node f L)] := ⟨_, rfl⟩
          rw [← hd5] at HEQ5 HOW5
          clear hd5 HER4 HKD4 HOW4 HB4 HAD HEE
          obtain ⟨x0, x1, rr, hLx⟩ : ∃ x0 x1 rr, L = x0 :: x1 :: rr := by
            match L, hL1 with
            | x0 :: x1 :: rr, _ => exact ⟨x0, x1, rr, rfl⟩
            | [x0], h => simp at h
            | [], h => simp at h
          have HLX := hid hLx
          obtain ⟨f', hf'⟩ : ∃ f', f = f' + 1 := by
            have := Tr.fits_pos HST.out.fit (by rw [hLx]; simp)
            exact ⟨f - 1, by omega⟩
          have HFF := hid hf'
          have HDLL : Hid (∀ e ∈ L, e.dig.length ≤ 1000000) := fun e he => by have := (HST.out.fit e he).1; have := HST.out.f13; omega
          have HCM : Hid (Calls Try.prog 59 #[.slice aL L.length cL] W5 fun e w' => e = .returned (.int .i64 ((Tr.shared L).length : Nat)) ∧ Below W5.heap.size W5 w') := by
            have her := HER5.out.erd
            have hdd := HDLL.out
            have hll := HST.out.len
            subst hLx
            exact commonR_any aL cL x0 (x1 :: rr) W5 her (by simp at hll ⊢; omega) hdd
          have hown5 := town_lt HOW5.out
          clear hLx hf'
          go_wp2_with fail
          refine HCM.out.mono ?_
          rintro e W6 ⟨rfl, b6⟩
          have HB6 : Hid (Below W5.heap.size W5 W6) := b6
          have HER6 := hid (erdQ_turn HER5.out HB6.out.size (fun _ _ h => h) (fun x hx _ => HB6.out.block x hx))
          have HKD6 := hid (brdX_turn HKD5.out HB6.out.size (fun _ _ h => h) (fun x hx _ => HB6.out.block x hx))
          have HOW6 := hid (town_later HOW5.out HB6.out)
          have HBW6 : Hid (Below w.heap.size w W6) := HBW5.out.trans (HB6.out.mono HBW5.out.size)
          clear b6 HCM HB6
          by_cases hsh : Tr.shared L = []
          · have hsl : (Tr.shared L).length = 0 := by rw [hsh]; rfl
            have HFK : Hid (Tr.Forks L) := ⟨x0, x1, rr, HLX.out, hsh⟩
            rw [hsl]
            clear hsl hsh
            cases K with
            | nil =>
              have HDONE : Hid (done5 = goal) := by
                rw [Hid, ← HEQ5.out, HFF.out, Tr.elems_end f' HFK.out, List.append_nil]
              have HOX := hid HOW6.out
              have HBX := hid HBW6.out
              clear HST HER5 HKD5 HER6 HKD6 HOW6 HOW5
              go_wp2_with fail
              refine bodyPost_ret (v := .tuple #[.slice a5 (done.length + 1) c5, .int .i64 0]) (by simp [results, Try.results28, go_sem]) rfl ⟨_, rfl, ?_, HBX.out⟩
              rw [← HDONE.out]
              exact HOX.out
            | cons c K' =>
              have HEQ6 : Hid (done5 ++ (adds f' (Tr.behind [c] L) false ++ Tr.elems f' (Tr.behind [c] L) K') = goal) := by
                rw [Hid, ← HEQ5.out, HFF.out, Tr.elems_fork f' HFK.out, adds_next]
              have HFIT' : Hid (Tr.Fits f' (Tr.behind [c] L)) := by
                have h := HST.out.fit
                rw [HFF.out] at h
                exact h.behind (by simp)
              have HAP' : Hid (Tr.Apart (Tr.behind [c] L)) := HST.out.ap.behind
              have HLEN' : Hid ((Tr.behind [c] L).length ≤ 60) := Nat.le_trans (behind_len _ _) HST.out.len
              have HF' : Hid (f' ≤ 13) := by have h1 := HFF.out; have h2 := HST.out.f13; rw [Hid]; omega
              have HK16' : Hid (∀ x ∈ K', x.toNat < 16) := fun x hx => HST.out.k16 x (List.mem_cons_of_mem _ hx)
              have HKL' : Hid (K'.length ≤ 1000) := by have h := HST.out.klen; simp only [List.length_cons] at h; rw [Hid]; omega
              rcases HKD6.out with ⟨_, h⟩ | ⟨bk, ok, ck', hvk, hcapk, hltk, hpk, hcellk⟩
              · cases h
              simp only [Value.slice.injEq] at hvk
              obtain ⟨hvk, _, hcc⟩ := hvk
              subst hvk
              subst hcc
              have HKX := hid (fun a' ha => brdX_drop (P := fun x => (Value.slice a5 (done.length + 1) c5).ownBlock ≠ some x) (n := 1) (a' := a') (.inr ⟨bk, ok, ck, rfl, hcapk, hltk, hpk, hcellk⟩) (by simp) ha)
              simp only [List.drop_succ_cons, List.drop_zero, List.length_cons, Nat.add_sub_cancel] at HKX
              have g0 : W6.cell? ⟨bk, ok, none⟩ = some (.int .u8 (c.toNat : Nat)) := by
                have := hcellk 0 (by simp)
                simpa using this
              have hown6 := town_lt HOW6.out
              have HBE := hid (behindQ_any (fun x => (Value.slice a5 (done.length + 1) c5).ownBlock ≠ some x) aL cL L c W6 (fun b hb e => by have := (hown6 b e).2; omega) HER6.out (by have := HST.out.len; omega) HDLL.out)
              have k1 : (0 : Int) < (K'.length : Int) + 1 := by omega
              have k2 : (1 : Int) ≤ (K'.length : Int) + 1 := by omega
              have k3 : ¬ (K'.length : Int) + 1 = 0 := by omega
              have HKS := hid hcapk
              clear HST HER5 HKD5 HER6 HKD6 HOW5 hcellk hcapk hpk hown6 hown5 HBW5
              go_wp2_with fail
              refine HBE.out.mono ?_
              rintro e W7 ⟨aL', cL', rfl, r7, b7⟩
              have HER7 := hid r7
              have HB7 := hid b7
              have HOW7 := hid (town_later HOW6.out b7)
              have HBW7 : Hid (Below w.heap.size w W7) := HBW6.out.trans (b7.mono HBW6.out.size)
              clear r7 b7 HBE g0
              by_cases hck : ck = 1
              · have HKX7 := hid (brdX_turn (HKX.out _ (if_pos hck).symm) HB7.out.size (fun _ _ h => h) (fun x hx _ => HB7.out.block x hx))
                subst hck
                simp only [Nat.sub_self] at HKX7
                by_cases hL' : Tr.behind [c] L = []
                · have HDONE : Hid (done5 = goal) := by
                    have h := HEQ6.out
                    rw [hL', adds_nil, elems_short (by simp)] at h
                    rw [Hid]
                    simpa using h
                  have hl0 : (Tr.behind [c] L).length = 0 := by rw [hL']; rfl
                  have HOX := hid HOW7.out
                  have HBX := hid HBW7.out
                  rw [hl0]
                  clear hl0 hL' HKX7 HKX HER7 HOW7 HEQ6 HFIT' HAP' HLEN' HK16' HKL'
                  go_wp2_with fail
                  refine bodyPost_ret (v := .tuple #[.slice a5 (done.length + 1) c5, .int .i64 0]) (by simp [results, Try.results28, go_sem]) rfl ⟨_, rfl, ?_, HBX.out⟩
                  rw [← HDONE.out]
                  exact HOX.out
                · have i7 : ¬ ((Tr.behind [c] L).length : Int) = 0 := by
                    intro h
                    exact hL' (List.eq_nil_of_length_eq_zero (by omega))
                  clear hL'
                  go_wp2_with fail
                  exact ⟨⟨f', Tr.behind [c] L, K', done5, false, aL', cL', some ⟨bk, ok, none⟩, 0, rfl, rfl, rfl, ⟨HER7.out, HKX7.out, HFIT'.out, HAP'.out, HLEN'.out, HF'.out, HK16'.out, HKL'.out, HOW7.out, HBW7.out, HEQ6.out⟩⟩, by simp⟩
              · have HKX7 := hid (brdX_turn (HKX.out _ (if_neg hck).symm) HB7.out.size (fun _ _ h => h) (fun x hx _ => HB7.out.block x hx))
                by_cases hL' : Tr.behind [c] L = []
                · have HDONE : Hid (done5 = goal) := by
                    have h := HEQ6.out
                    rw [hL', adds_nil, elems_short (by simp)] at h
                    rw [Hid]
                    simpa using h
                  have hl0 : (Tr.behind [c] L).length = 0 := by rw [hL']; rfl
                  have HOX := hid HOW7.out
                  have HBX := hid HBW7.out
                  rw [hl0]
                  clear hl0 hL' HKX7 HKX HER7 HOW7 HEQ6 HFIT' HAP' HLEN' HK16' HKL'
                  go_wp2_with fail
                  refine bodyPost_ret (v := .tuple #[.slice a5 (done.length + 1) c5, .int .i64 0]) (by simp [results, Try.results28, go_sem]) rfl ⟨_, rfl, ?_, HBX.out⟩
                  rw [← HDONE.out]
                  exact HOX.out
                · have i7 : ¬ ((Tr.behind [c] L).length : Int) = 0 := by
                    intro h
                    exact hL' (List.eq_nil_of_length_eq_zero (by omega))
                  clear hL'
                  go_wp2_with fail
                  exact ⟨⟨f', Tr.behind [c] L, K', done5, false, aL', cL', some ⟨bk, ok + 1, none⟩, (ck - 1), rfl, rfl, rfl, ⟨HER7.out, HKX7.out, HFIT'.out, HAP'.out, HLEN'.out, HF'.out, HK16'.out, HKL'.out, HOW7.out, HBW7.out, HEQ6.out⟩⟩, by simp⟩
          · have HEX : Hid (Tr.elems f L K = if (Tr.shared L).isPrefixOf K then Itm.enc (Tr.node f' (Tr.behind (Tr.shared L) L)) :: Tr.elems f' (Tr.behind (Tr.shared L) L) (K.drop (Tr.shared L).length) else []) := by
              rw [Hid, HFF.out]
              exact Tr.elems_ext f' HLX.out hsh K
            have HFIT' : Hid (Tr.Fits f' (Tr.behind (Tr.shared L) L)) := by
              have h := HST.out.fit
              rw [HFF.out] at h
              exact h.behind hsh
            have HAP' : Hid (Tr.Apart (Tr.behind (Tr.shared L) L)) := HST.out.ap.behind
            have HLEN' : Hid ((Tr.behind (Tr.shared L) L).length ≤ 60) := Nat.le_trans (behind_len _ _) HST.out.len
            have HF' : Hid (f' ≤ 13) := by have h1 := HFF.out; have h2 := HST.out.f13; rw [Hid]; omega
            have HAD' : Hid (adds f' (Tr.behind (Tr.shared L) L) false = [Itm.enc (Tr.node f' (Tr.behind (Tr.shared L) L))]) := by
              have hfk := Tr.forks_behind HLX.out
              have hp : 1 ≤ f' := by
                obtain ⟨a', b', r', hb', _⟩ := hfk
                exact Tr.fits_pos HFIT'.out (by rw [hb']; simp)
              obtain ⟨f2, rfl⟩ : ∃ f2, f' = f2 + 1 := ⟨f' - 1, by omega⟩
              rw [Hid, adds_next, if_neg (Tr.fork_long f2 hfk)]
            have hpre := Tr.shared_pre L x0 (by rw [HLX.out]; simp)
            have HPT : Hid (x0.dig.take (Tr.shared L).length = Tr.shared L) := (List.prefix_iff_eq_take.1 hpre).symm
            have hple := hpre.length_le
            have hnz : ¬ ((Tr.shared L).length : Int) = 0 := by
              intro h
              exact hsh (List.eq_nil_of_length_eq_zero (by omega))
            have HSH := hid hsh
            generalize Tr.shared L = sh at *
            have hnpos : 0 < sh.length := by omega
            have hnb : ((sh.length : Int) == 0) = false := by rw [beq_eq_false_iff_ne]; exact hnz
            have hkl := HST.out.klen
            clear hpre hsh
            by_cases hkn : K.length < sh.length
            · have HDONE : Hid (done5 = goal) := by
                have h := HEQ5.out
                rw [HEX.out, if_neg, List.append_nil] at h
                · exact h
                · rw [List.isPrefixOf_iff_prefix]
                  intro hh
                  have := hh.length_le
                  omega
              have i8 : (K.length : Int) < (sh.length : Int) := by omega
              have HOX := hid HOW6.out
              have HBX := hid HBW6.out
              clear HST HER5 HKD5 HER6 HKD6 HOW6 HOW5 HBW5 HEX HPT HAD' HEQ5 HFIT' HAP' HLEN' HF'
              go_wp2_with fail
              go_quiet (fail)
              go_wp2_with fail
              refine bodyPost_ret (v := .tuple #[.slice a5 (done.length + 1) c5, .int .i64 0]) (by simp [results, Try.results28, go_sem]) rfl ⟨_, rfl, ?_, below_drewN HBX.out _⟩
              rw [← HDONE.out]
              exact HOX.out
            · have i8 : ¬ (K.length : Int) < (sh.length : Int) := by omega
              rcases HKD6.out with ⟨_, h⟩ | ⟨bk, ok, ck', hvk, hcapk, hltk, hpk, hcellk⟩
              · have h0 : K.length = 0 := by rw [h]; rfl
                omega
              simp only [Value.slice.injEq] at hvk
              obtain ⟨hvk, _, hcc⟩ := hvk
              subst hvk
              subst hcc
              have HKC := hid hcellk
              have HKX := hid (fun a' ha => brdX_drop (P := fun x => (Value.slice a5 (done.length + 1) c5).ownBlock ≠ some x) (n := sh.length) (a' := a') (.inr ⟨bk, ok, ck, rfl, hcapk, hltk, hpk, hcellk⟩) (by omega) ha)
              obtain ⟨bl, ol, ad, cd, rfl, hbl, _, e0, _, hbr0⟩ := HER6.out 0 (by rw [HLX.out]; simp)
              have hget : ∀ h, L[0]'h = x0 := by
                intro h
                have hx : L[0]? = some x0 := by rw [HLX.out]; rfl
                rw [List.getElem?_eq_getElem h] at hx
                exact Option.some.inj hx
              rw [hget] at e0 hbr0
              simp only [Nat.zero_mul, Nat.add_zero] at e0
              have hcd : sh.length ≤ cd := by
                rcases hbr0 with ⟨hv, h0⟩ | ⟨_, _, cap', hv, hcap, _⟩
                · have h1 : x0.dig.length = 0 := by rw [h0]; rfl
                  omega
                · simp only [Value.slice.injEq] at hv
                  omega
              have hcD : BrdC W6.heap.size W6 (.slice ad sh.length cd) sh := by
                have h := brdC_take (n := sh.length) (hbr0.brdC (Nat.le_refl _)) hple
                rw [HPT.out] at h
                exact h
              have hcK : BrdC W6.heap.size W6 (.slice (some ⟨bk, ok, none⟩) sh.length ck) (K.take sh.length) := by
                have h := brdC_take (n := sh.length) (HKD6.out.brdC (Nat.le_refl _)) (by omega)
                rw [List.length_take, Nat.min_eq_left (by omega)] at h
                exact h
              obtain ⟨S1, hS1⟩ : ∃ S1 : ByteArray, S1 = ⟨(K.take sh.length).toArray⟩ := ⟨_, rfl⟩
              obtain ⟨S2, hS2⟩ : ∃ S2 : ByteArray, S2 = ⟨sh.toArray⟩ := ⟨_, rfl⟩
              have cv1 : ∀ q, (convert 76 9 (.slice (some ⟨bk, ok, none⟩) sh.length ck)).run Try.prog (W6.drewN q) = .ok (.string S1) (W6.drewN q) := by
                intro q
                rw [hS1]
                exact run_bytes_string (brdR_drewN q hcK.brd)
              have cv2 : ∀ q, (convert 76 9 (.slice ad sh.length cd)).run Try.prog (W6.drewN q) = .ok (.string S2) (W6.drewN q) := by
                intro q
                rw [hS2]
                exact run_bytes_string (brdR_drewN q hcD.brd)
              have hl2 : 2 ≤ L.length := by rw [HLX.out]; simp
              have i9 : (0 : Int) < (L.length : Int) := by omega
              have i10 : (sh.length : Int) ≤ (ck : Int) := by omega
              have i11 : (sh.length : Int) ≤ (cd : Int) := by omega
              by_cases heq : K.take sh.length = sh
              · have HPX : Hid (sh.isPrefixOf K = true) := by
                  rw [Hid, List.isPrefixOf_iff_prefix]
                  exact List.prefix_iff_eq_take.2 heq.symm
                have HEQ6 : Hid (done5 ++ (adds f' (Tr.behind sh L) false ++ Tr.elems f' (Tr.behind sh L) (K.drop sh.length)) = goal) := by
                  have h := HEQ5.out
                  rw [HEX.out, if_pos HPX.out] at h
                  rw [Hid, HAD'.out]
                  exact h
                have hbq : (S1.toList == S2.toList) = true := by rw [hS1, hS2, heq]; exact beq_self_eq_true _
                have HTK := hid heq
                have HK16' : Hid (∀ x ∈ K.drop sh.length, x.toNat < 16) := fun x hx => HST.out.k16 x (List.mem_of_mem_drop hx)
                have HLL := hid HST.out.len
                clear hget hcD hcK hS1 hS2 heq HPX HPT HEX HEQ5 HAD' hbr0 HST HER5 HKD5 HOW5 HBW5 HKD6 hcellk hown5 hple
                go_wp2_with fail
                go_quiet (fail)
                clear cv1 cv2 e0 hbq
                go_wp2_with fail
                go_loopw [6, 13] (fun vL i wi => ∃ (m : Nat) (aN : Option Addr) (cN : Nat), vL = .slice aN (Tr.behind (sh.take m) L).length cN ∧ i = .int .i64 m ∧ m ≤ sh.length ∧ Hid (ERdQ (fun x => (Value.slice a5 (done.length + 1) c5).ownBlock ≠ some x) wi.heap.size wi aN (Tr.behind (sh.take m) L) ∧ Below W6.heap.size W6 wi)) (fun _ i _ => sh.length - (intOf i).toNat)
                case atStart => exact ⟨0, some ⟨bl, ol, none⟩, cL, by rw [List.take_zero, behind_none], rfl, by omega, by rw [List.take_zero, behind_none]; exact ⟨HER6.out, below_drewN (Below.refl _ _) _⟩⟩
                case round =>
                  obtain ⟨m, aN, cN, rfl, rfl, hm, HI⟩ := hrel
                  by_cases hlt : m < sh.length
                  · have hmk : m < K.length := by omega
                    have j1 : (m : Int) < (sh.length : Int) := by omega
                    have j2 : (m : Int) < (K.length : Int) := by omega
                    have g0 := (HI.out.2.cell (p := ⟨bk, ok + m, none⟩) hltk).trans (HKC.out m hmk)
                    have hlk : bk < wr.heap.size := Nat.lt_of_lt_of_le hltk HI.out.2.size
                    have hown6 := town_lt HOW6.out
                    have HBE := hid (behindQ_any (fun x => (Value.slice a5 (done.length + 1) c5).ownBlock ≠ some x) aN cN (Tr.behind (sh.take m) L) K[m] wr (fun b hb e => by have := (hown6 b e).2; have := HI.out.2.size; omega) HI.out.1 (by have := behind_len (sh.take m) L; have := HLL.out; omega) (fun e he => by obtain ⟨e1, he1, h2, _⟩ := Tr.behind_mem he; have := HDLL.out e1 he1; rw [h2, List.length_append] at this; omega))
                    rw [behind_step, take_step sh K m HTK.out hlt hmk] at HBE
                    generalize K[m] = c at *
                    clear hown6
                    go_wp2_with fail
                    refine HBE.out.mono ?_
                    rintro e W7 ⟨aN', cN', rfl, r7, b7⟩
                    have HR7 := hid r7
                    have HB7 := hid b7
                    clear r7 b7 HBE g0
                    go_wp2_with fail
                    exact ⟨⟨m + 1, aN', cN', rfl, by go_num, by omega, HR7.out, HI.out.2.trans (HB7.out.mono HI.out.2.size)⟩, by simp [intOf]; omega⟩
                  · obtain rfl : m = sh.length := by omega
                    rw [List.take_length] at HI ⊢
                    have j1 : ¬ (sh.length : Int) < (sh.length : Int) := by omega
                    have j3 : (sh.length : Int) ≤ (K.length : Int) := by omega
                    have HOW7 := hid (town_later HOW6.out HI.out.2)
                    have HBW7 : Hid (Below w.heap.size w wr) := HBW6.out.trans (HI.out.2.mono HBW6.out.size)
                    have HKL' : Hid ((K.drop sh.length).length ≤ 1000) := by rw [Hid, List.length_drop]; omega
                    by_cases hck : ck = sh.length
                    · have HKX7 := hid (brdX_turn (HKX.out _ (if_pos hck).symm) HI.out.2.size (fun _ _ h => h) (fun x hx _ => HI.out.2.block x hx))
                      have hz : K.length - sh.length = 0 := by omega
                      subst hck
                      simp only [Nat.sub_self] at HKX7
                      go_wp2_with fail
                      exact ⟨⟨f', Tr.behind sh L, K.drop sh.length, done5, false, aN, cN, some ⟨bk, ok, none⟩, 0, rfl, by rw [List.length_drop, hz], rfl, ⟨HI.out.1, by rw [List.length_drop]; exact HKX7.out, HFIT'.out, HAP'.out, HLEN'.out, HF'.out, HK16'.out, HKL'.out, HOW7.out, HBW7.out, HEQ6.out⟩⟩, by show 0 < K.length; omega⟩
                    · have HKX7 := hid (brdX_turn (HKX.out _ (if_neg hck).symm) HI.out.2.size (fun _ _ h => h) (fun x hx _ => HI.out.2.block x hx))
                      go_wp2_with fail
                      exact ⟨⟨f', Tr.behind sh L, K.drop sh.length, done5, false, aN, cN, some ⟨bk, ok + sh.length, none⟩, ck - sh.length, rfl, by rw [List.length_drop], rfl, ⟨HI.out.1, by rw [List.length_drop]; exact HKX7.out, HFIT'.out, HAP'.out, HLEN'.out, HF'.out, HK16'.out, HKL'.out, HOW7.out, HBW7.out, HEQ6.out⟩⟩, by show K.length - sh.length < K.length; omega⟩
              · have HDONE : Hid (done5 = goal) := by
                  have h := HEQ5.out
                  rw [HEX.out, if_neg, List.append_nil] at h
                  · exact h
                  · rw [List.isPrefixOf_iff_prefix]
                    intro hh
                    exact heq (List.prefix_iff_eq_take.1 hh).symm
                have hbq : (S1.toList == S2.toList) = false := by
                  rw [beq_eq_false_iff_ne, ByteArray.toList_eq, ByteArray.toList_eq, hS1, hS2]
                  exact heq
                have HOX := hid HOW6.out
                have HBX := hid HBW6.out
                clear hget hcD hcK hS1 hS2 heq HPT HEX HEQ5 HAD' hbr0 HST HER5 HKD5 HOW5 HBW5 HKD6 hcellk hown5 hple HER6 HOW6 HKX HKC
                go_wp2_with fail
                go_quiet (fail)
                clear cv1 cv2 e0 hbq
                go_wp2_with fail
                refine bodyPost_ret (v := .tuple #[.slice a5 (done.length + 1) c5, .int .i64 0]) (by simp [results, Try.results28, go_sem]) rfl ⟨_, rfl, ?_, below_drewN HBX.out _⟩
                rw [← HDONE.out]
                exact HOX.out
      · have HAD : Hid (adds f L false = []) := by rw [Hid, adds_next, if_pos (by omega)]
        have i0 : ¬ (8 : Int) ≤ (E.size : Int) := by omega
        by_cases hL1 : L.length ≤ 1
        · have i1 : (L.length : Int) ≤ 1 := by omega
          have HDONE : Hid (done = goal) := by
            have h := HST.out.eq
            rw [HAD.out, elems_short hL1, List.append_nil, List.append_nil] at h
            exact h
          have HOX := hid HOW4.out
          have HBX := hid HBW4.out
          go_wp2_with fail
          refine bodyPost_ret (v := .tuple #[.slice av done.length cv, .int .i64 0]) (by simp [results, Try.results28, go_sem]) rfl ⟨_, rfl, ?_, HBX.out⟩
          rw [← HDONE.out]
          exact HOX.out
        · have i1 : ¬ (L.length : Int) ≤ 1 := by omega
          have HEQ5 : Hid (done ++ Tr.elems f L K = goal) := by
            have h := HST.out.eq
            rw [HAD.out, List.nil_append] at h
            exact h
          go_wp2_with fail
          have HER5 := hid HER4.out
          have HKD5 := hid HKD4.out
          have HOW5 := hid HOW4.out
          have HBW5 := hid HBW4.out
          clear HER4 HKD4 HOW4 HB4 HAD HEE HBW4
          obtain ⟨x0, x1, rr, hLx⟩ : ∃ x0 x1 rr, L = x0 :: x1 :: rr := by
            match L, hL1 with
            | x0 :: x1 :: rr, _ => exact ⟨x0, x1, rr, rfl⟩
            | [x0], h => simp at h
            | [], h => simp at h
          have HLX := hid hLx
          obtain ⟨f', hf'⟩ : ∃ f', f = f' + 1 := by
            have := Tr.fits_pos HST.out.fit (by rw [hLx]; simp)
            exact ⟨f - 1, by omega⟩
          have HFF := hid hf'
          have HDLL : Hid (∀ e ∈ L, e.dig.length ≤ 1000000) := fun e he => by have := (HST.out.fit e he).1; have := HST.out.f13; omega
          have HCM : Hid (Calls Try.prog 59 #[.slice aL L.length cL] w4 fun e w' => e = .returned (.int .i64 ((Tr.shared L).length : Nat)) ∧ Below w4.heap.size w4 w') := by
            have her := HER5.out.erd
            have hdd := HDLL.out
            have hll := HST.out.len
            subst hLx
            exact commonR_any aL cL x0 (x1 :: rr) w4 her (by simp at hll ⊢; omega) hdd
          have hown5 := town_lt HOW5.out
          clear hLx hf'
          go_wp2_with fail
          refine HCM.out.mono ?_
          rintro e W6 ⟨rfl, b6⟩
          have HB6 : Hid (Below w4.heap.size w4 W6) := b6
          have HER6 := hid (erdQ_turn HER5.out HB6.out.size (fun _ _ h => h) (fun x hx _ => HB6.out.block x hx))
          have HKD6 := hid (brdX_turn HKD5.out HB6.out.size (fun _ _ h => h) (fun x hx _ => HB6.out.block x hx))
          have HOW6 := hid (town_later HOW5.out HB6.out)
          have HBW6 : Hid (Below w.heap.size w W6) := HBW5.out.trans (HB6.out.mono HBW5.out.size)
          clear b6 HCM HB6
          by_cases hsh : Tr.shared L = []
          · have hsl : (Tr.shared L).length = 0 := by rw [hsh]; rfl
            have HFK : Hid (Tr.Forks L) := ⟨x0, x1, rr, HLX.out, hsh⟩
            rw [hsl]
            clear hsl hsh
            cases K with
            | nil =>
              have HDONE : Hid (done = goal) := by
                rw [Hid, ← HEQ5.out, HFF.out, Tr.elems_end f' HFK.out, List.append_nil]
              have HOX := hid HOW6.out
              have HBX := hid HBW6.out
              clear HST HER5 HKD5 HER6 HKD6 HOW6 HOW5
              go_wp2_with fail
              refine bodyPost_ret (v := .tuple #[.slice av done.length cv, .int .i64 0]) (by simp [results, Try.results28, go_sem]) rfl ⟨_, rfl, ?_, HBX.out⟩
              rw [← HDONE.out]
              exact HOX.out
            | cons c K' =>
              have HEQ6 : Hid (done ++ (adds f' (Tr.behind [c] L) false ++ Tr.elems f' (Tr.behind [c] L) K') = goal) := by
                rw [Hid, ← HEQ5.out, HFF.out, Tr.elems_fork f' HFK.out, adds_next]
              have HFIT' : Hid (Tr.Fits f' (Tr.behind [c] L)) := by
                have h := HST.out.fit
                rw [HFF.out] at h
                exact h.behind (by simp)
              have HAP' : Hid (Tr.Apart (Tr.behind [c] L)) := HST.out.ap.behind
              have HLEN' : Hid ((Tr.behind [c] L).length ≤ 60) := Nat.le_trans (behind_len _ _) HST.out.len
              have HF' : Hid (f' ≤ 13) := by have h1 := HFF.out; have h2 := HST.out.f13; rw [Hid]; omega
              have HK16' : Hid (∀ x ∈ K', x.toNat < 16) := fun x hx => HST.out.k16 x (List.mem_cons_of_mem _ hx)
              have HKL' : Hid (K'.length ≤ 1000) := by have h := HST.out.klen; simp only [List.length_cons] at h; rw [Hid]; omega
              rcases HKD6.out with ⟨_, h⟩ | ⟨bk, ok, ck', hvk, hcapk, hltk, hpk, hcellk⟩
              · cases h
              simp only [Value.slice.injEq] at hvk
              obtain ⟨hvk, _, hcc⟩ := hvk
              subst hvk
              subst hcc
              have HKX := hid (fun a' ha => brdX_drop (P := fun x => (Value.slice av done.length cv).ownBlock ≠ some x) (n := 1) (a' := a') (.inr ⟨bk, ok, ck, rfl, hcapk, hltk, hpk, hcellk⟩) (by simp) ha)
              simp only [List.drop_succ_cons, List.drop_zero, List.length_cons, Nat.add_sub_cancel] at HKX
              have g0 : W6.cell? ⟨bk, ok, none⟩ = some (.int .u8 (c.toNat : Nat)) := by
                have := hcellk 0 (by simp)
                simpa using this
              have hown6 := town_lt HOW6.out
              have HBE := hid (behindQ_any (fun x => (Value.slice av done.length cv).ownBlock ≠ some x) aL cL L c W6 (fun b hb e => by have := (hown6 b e).2; omega) HER6.out (by have := HST.out.len; omega) HDLL.out)
              have k1 : (0 : Int) < (K'.length : Int) + 1 := by omega
              have k2 : (1 : Int) ≤ (K'.length : Int) + 1 := by omega
              have k3 : ¬ (K'.length : Int) + 1 = 0 := by omega
              have HKS := hid hcapk
              clear HST HER5 HKD5 HER6 HKD6 HOW5 hcellk hcapk hpk hown6 hown5 HBW5
              go_wp2_with fail
              refine HBE.out.mono ?_
              rintro e W7 ⟨aL', cL', rfl, r7, b7⟩
              have HER7 := hid r7
              have HB7 := hid b7
              have HOW7 := hid (town_later HOW6.out b7)
              have HBW7 : Hid (Below w.heap.size w W7) := HBW6.out.trans (b7.mono HBW6.out.size)
              clear r7 b7 HBE g0
              by_cases hck : ck = 1
              · have HKX7 := hid (brdX_turn (HKX.out _ (if_pos hck).symm) HB7.out.size (fun _ _ h => h) (fun x hx _ => HB7.out.block x hx))
                subst hck
                simp only [Nat.sub_self] at HKX7
                by_cases hL' : Tr.behind [c] L = []
                · have HDONE : Hid (done = goal) := by
                    have h := HEQ6.out
                    rw [hL', adds_nil, elems_short (by simp)] at h
                    rw [Hid]
                    simpa using h
                  have hl0 : (Tr.behind [c] L).length = 0 := by rw [hL']; rfl
                  have HOX := hid HOW7.out
                  have HBX := hid HBW7.out
                  rw [hl0]
                  clear hl0 hL' HKX7 HKX HER7 HOW7 HEQ6 HFIT' HAP' HLEN' HK16' HKL'
                  go_wp2_with fail
                  refine bodyPost_ret (v := .tuple #[.slice av done.length cv, .int .i64 0]) (by simp [results, Try.results28, go_sem]) rfl ⟨_, rfl, ?_, HBX.out⟩
                  rw [← HDONE.out]
                  exact HOX.out
                · have i7 : ¬ ((Tr.behind [c] L).length : Int) = 0 := by
                    intro h
                    exact hL' (List.eq_nil_of_length_eq_zero (by omega))
                  clear hL'
                  go_wp2_with fail
                  exact ⟨⟨f', Tr.behind [c] L, K', done, false, aL', cL', some ⟨bk, ok, none⟩, 0, rfl, rfl, rfl, ⟨HER7.out, HKX7.out, HFIT'.out, HAP'.out, HLEN'.out, HF'.out, HK16'.out, HKL'.out, HOW7.out, HBW7.out, HEQ6.out⟩⟩, by simp⟩
              · have HKX7 := hid (brdX_turn (HKX.out _ (if_neg hck).symm) HB7.out.size (fun _ _ h => h) (fun x hx _ => HB7.out.block x hx))
                by_cases hL' : Tr.behind [c] L = []
                · have HDONE : Hid (done = goal) := by
                    have h := HEQ6.out
                    rw [hL', adds_nil, elems_short (by simp)] at h
                    rw [Hid]
                    simpa using h
                  have hl0 : (Tr.behind [c] L).length = 0 := by rw [hL']; rfl
                  have HOX := hid HOW7.out
                  have HBX := hid HBW7.out
                  rw [hl0]
                  clear hl0 hL' HKX7 HKX HER7 HOW7 HEQ6 HFIT' HAP' HLEN' HK16' HKL'
                  go_wp2_with fail
                  refine bodyPost_ret (v := .tuple #[.slice av done.length cv, .int .i64 0]) (by simp [results, Try.results28, go_sem]) rfl ⟨_, rfl, ?_, HBX.out⟩
                  rw [← HDONE.out]
                  exact HOX.out
                · have i7 : ¬ ((Tr.behind [c] L).length : Int) = 0 := by
                    intro h
                    exact hL' (List.eq_nil_of_length_eq_zero (by omega))
                  clear hL'
                  go_wp2_with fail
                  exact ⟨⟨f', Tr.behind [c] L, K', done, false, aL', cL', some ⟨bk, ok + 1, none⟩, (ck - 1), rfl, rfl, rfl, ⟨HER7.out, HKX7.out, HFIT'.out, HAP'.out, HLEN'.out, HF'.out, HK16'.out, HKL'.out, HOW7.out, HBW7.out, HEQ6.out⟩⟩, by simp⟩
          · have HEX : Hid (Tr.elems f L K = if (Tr.shared L).isPrefixOf K then Itm.enc (Tr.node f' (Tr.behind (Tr.shared L) L)) :: Tr.elems f' (Tr.behind (Tr.shared L) L) (K.drop (Tr.shared L).length) else []) := by
              rw [Hid, HFF.out]
              exact Tr.elems_ext f' HLX.out hsh K
            have HFIT' : Hid (Tr.Fits f' (Tr.behind (Tr.shared L) L)) := by
              have h := HST.out.fit
              rw [HFF.out] at h
              exact h.behind hsh
            have HAP' : Hid (Tr.Apart (Tr.behind (Tr.shared L) L)) := HST.out.ap.behind
            have HLEN' : Hid ((Tr.behind (Tr.shared L) L).length ≤ 60) := Nat.le_trans (behind_len _ _) HST.out.len
            have HF' : Hid (f' ≤ 13) := by have h1 := HFF.out; have h2 := HST.out.f13; rw [Hid]; omega
            have HAD' : Hid (adds f' (Tr.behind (Tr.shared L) L) false = [Itm.enc (Tr.node f' (Tr.behind (Tr.shared L) L))]) := by
              have hfk := Tr.forks_behind HLX.out
              have hp : 1 ≤ f' := by
                obtain ⟨a', b', r', hb', _⟩ := hfk
                exact Tr.fits_pos HFIT'.out (by rw [hb']; simp)
              obtain ⟨f2, rfl⟩ : ∃ f2, f' = f2 + 1 := ⟨f' - 1, by omega⟩
              rw [Hid, adds_next, if_neg (Tr.fork_long f2 hfk)]
            have hpre := Tr.shared_pre L x0 (by rw [HLX.out]; simp)
            have HPT : Hid (x0.dig.take (Tr.shared L).length = Tr.shared L) := (List.prefix_iff_eq_take.1 hpre).symm
            have hple := hpre.length_le
            have hnz : ¬ ((Tr.shared L).length : Int) = 0 := by
              intro h
              exact hsh (List.eq_nil_of_length_eq_zero (by omega))
            have HSH := hid hsh
            generalize Tr.shared L = sh at *
            have hnpos : 0 < sh.length := by omega
            have hnb : ((sh.length : Int) == 0) = false := by rw [beq_eq_false_iff_ne]; exact hnz
            have hkl := HST.out.klen
            clear hpre hsh
            by_cases hkn : K.length < sh.length
            · have HDONE : Hid (done = goal) := by
                have h := HEQ5.out
                rw [HEX.out, if_neg, List.append_nil] at h
                · exact h
                · rw [List.isPrefixOf_iff_prefix]
                  intro hh
                  have := hh.length_le
                  omega
              have i8 : (K.length : Int) < (sh.length : Int) := by omega
              have HOX := hid HOW6.out
              have HBX := hid HBW6.out
              clear HST HER5 HKD5 HER6 HKD6 HOW6 HOW5 HBW5 HEX HPT HAD' HEQ5 HFIT' HAP' HLEN' HF'
              go_wp2_with fail
              go_quiet (fail)
              go_wp2_with fail
              refine bodyPost_ret (v := .tuple #[.slice av done.length cv, .int .i64 0]) (by simp [results, Try.results28, go_sem]) rfl ⟨_, rfl, ?_, below_drewN HBX.out _⟩
              rw [← HDONE.out]
              exact HOX.out
            · have i8 : ¬ (K.length : Int) < (sh.length : Int) := by omega
              rcases HKD6.out with ⟨_, h⟩ | ⟨bk, ok, ck', hvk, hcapk, hltk, hpk, hcellk⟩
              · have h0 : K.length = 0 := by rw [h]; rfl
                omega
              simp only [Value.slice.injEq] at hvk
              obtain ⟨hvk, _, hcc⟩ := hvk
              subst hvk
              subst hcc
              have HKC := hid hcellk
              have HKX := hid (fun a' ha => brdX_drop (P := fun x => (Value.slice av done.length cv).ownBlock ≠ some x) (n := sh.length) (a' := a') (.inr ⟨bk, ok, ck, rfl, hcapk, hltk, hpk, hcellk⟩) (by omega) ha)
              obtain ⟨bl, ol, ad, cd, rfl, hbl, _, e0, _, hbr0⟩ := HER6.out 0 (by rw [HLX.out]; simp)
              have hget : ∀ h, L[0]'h = x0 := by
                intro h
                have hx : L[0]? = some x0 := by rw [HLX.out]; rfl
                rw [List.getElem?_eq_getElem h] at hx
                exact Option.some.inj hx
              rw [hget] at e0 hbr0
              simp only [Nat.zero_mul, Nat.add_zero] at e0
              have hcd : sh.length ≤ cd := by
                rcases hbr0 with ⟨hv, h0⟩ | ⟨_, _, cap', hv, hcap, _⟩
                · have h1 : x0.dig.length = 0 := by rw [h0]; rfl
                  omega
                · simp only [Value.slice.injEq] at hv
                  omega
              have hcD : BrdC W6.heap.size W6 (.slice ad sh.length cd) sh := by
                have h := brdC_take (n := sh.length) (hbr0.brdC (Nat.le_refl _)) hple
                rw [HPT.out] at h
                exact h
              have hcK : BrdC W6.heap.size W6 (.slice (some ⟨bk, ok, none⟩) sh.length ck) (K.take sh.length) := by
                have h := brdC_take (n := sh.length) (HKD6.out.brdC (Nat.le_refl _)) (by omega)
                rw [List.length_take, Nat.min_eq_left (by omega)] at h
                exact h
              obtain ⟨S1, hS1⟩ : ∃ S1 : ByteArray, S1 = ⟨(K.take sh.length).toArray⟩ := ⟨_, rfl⟩
              obtain ⟨S2, hS2⟩ : ∃ S2 : ByteArray, S2 = ⟨sh.toArray⟩ := ⟨_, rfl⟩
              have cv1 : ∀ q, (convert 76 9 (.slice (some ⟨bk, ok, none⟩) sh.length ck)).run Try.prog (W6.drewN q) = .ok (.string S1) (W6.drewN q) := by
                intro q
                rw [hS1]
                exact run_bytes_string (brdR_drewN q hcK.brd)
              have cv2 : ∀ q, (convert 76 9 (.slice ad sh.length cd)).run Try.prog (W6.drewN q) = .ok (.string S2) (W6.drewN q) := by
                intro q
                rw [hS2]
                exact run_bytes_string (brdR_drewN q hcD.brd)
              have hl2 : 2 ≤ L.length := by rw [HLX.out]; simp
              have i9 : (0 : Int) < (L.length : Int) := by omega
              have i10 : (sh.length : Int) ≤ (ck : Int) := by omega
              have i11 : (sh.length : Int) ≤ (cd : Int) := by omega
              by_cases heq : K.take sh.length = sh
              · have HPX : Hid (sh.isPrefixOf K = true) := by
                  rw [Hid, List.isPrefixOf_iff_prefix]
                  exact List.prefix_iff_eq_take.2 heq.symm
                have HEQ6 : Hid (done ++ (adds f' (Tr.behind sh L) false ++ Tr.elems f' (Tr.behind sh L) (K.drop sh.length)) = goal) := by
                  have h := HEQ5.out
                  rw [HEX.out, if_pos HPX.out] at h
                  rw [Hid, HAD'.out]
                  exact h
                have hbq : (S1.toList == S2.toList) = true := by rw [hS1, hS2, heq]; exact beq_self_eq_true _
                have HTK := hid heq
                have HK16' : Hid (∀ x ∈ K.drop sh.length, x.toNat < 16) := fun x hx => HST.out.k16 x (List.mem_of_mem_drop hx)
                have HLL := hid HST.out.len
                clear hget hcD hcK hS1 hS2 heq HPX HPT HEX HEQ5 HAD' hbr0 HST HER5 HKD5 HOW5 HBW5 HKD6 hcellk hown5 hple
                go_wp2_with fail
                go_quiet (fail)
                clear cv1 cv2 e0 hbq
                go_wp2_with fail
                go_loopw [6, 13] (fun vL i wi => ∃ (m : Nat) (aN : Option Addr) (cN : Nat), vL = .slice aN (Tr.behind (sh.take m) L).length cN ∧ i = .int .i64 m ∧ m ≤ sh.length ∧ Hid (ERdQ (fun x => (Value.slice av done.length cv).ownBlock ≠ some x) wi.heap.size wi aN (Tr.behind (sh.take m) L) ∧ Below W6.heap.size W6 wi)) (fun _ i _ => sh.length - (intOf i).toNat)
                case atStart => exact ⟨0, some ⟨bl, ol, none⟩, cL, by rw [List.take_zero, behind_none], rfl, by omega, by rw [List.take_zero, behind_none]; exact ⟨HER6.out, below_drewN (Below.refl _ _) _⟩⟩
                case round =>
                  obtain ⟨m, aN, cN, rfl, rfl, hm, HI⟩ := hrel
                  by_cases hlt : m < sh.length
                  · have hmk : m < K.length := by omega
                    have j1 : (m : Int) < (sh.length : Int) := by omega
                    have j2 : (m : Int) < (K.length : Int) := by omega
                    have g0 := (HI.out.2.cell (p := ⟨bk, ok + m, none⟩) hltk).trans (HKC.out m hmk)
                    have hlk : bk < wr.heap.size := Nat.lt_of_lt_of_le hltk HI.out.2.size
                    have hown6 := town_lt HOW6.out
                    have HBE := hid (behindQ_any (fun x => (Value.slice av done.length cv).ownBlock ≠ some x) aN cN (Tr.behind (sh.take m) L) K[m] wr (fun b hb e => by have := (hown6 b e).2; have := HI.out.2.size; omega) HI.out.1 (by have := behind_len (sh.take m) L; have := HLL.out; omega) (fun e he => by obtain ⟨e1, he1, h2, _⟩ := Tr.behind_mem he; have := HDLL.out e1 he1; rw [h2, List.length_append] at this; omega))
                    rw [behind_step, take_step sh K m HTK.out hlt hmk] at HBE
                    generalize K[m] = c at *
                    clear hown6
                    go_wp2_with fail
                    refine HBE.out.mono ?_
                    rintro e W7 ⟨aN', cN', rfl, r7, b7⟩
                    have HR7 := hid r7
                    have HB7 := hid b7
                    clear r7 b7 HBE g0
                    go_wp2_with fail
                    exact ⟨⟨m + 1, aN', cN', rfl, by go_num, by omega, HR7.out, HI.out.2.trans (HB7.out.mono HI.out.2.size)⟩, by simp [intOf]; omega⟩
                  · obtain rfl : m = sh.length := by omega
                    rw [List.take_length] at HI ⊢
                    have j1 : ¬ (sh.length : Int) < (sh.length : Int) := by omega
                    have j3 : (sh.length : Int) ≤ (K.length : Int) := by omega
                    have HOW7 := hid (town_later HOW6.out HI.out.2)
                    have HBW7 : Hid (Below w.heap.size w wr) := HBW6.out.trans (HI.out.2.mono HBW6.out.size)
                    have HKL' : Hid ((K.drop sh.length).length ≤ 1000) := by rw [Hid, List.length_drop]; omega
                    by_cases hck : ck = sh.length
                    · have HKX7 := hid (brdX_turn (HKX.out _ (if_pos hck).symm) HI.out.2.size (fun _ _ h => h) (fun x hx _ => HI.out.2.block x hx))
                      have hz : K.length - sh.length = 0 := by omega
                      subst hck
                      simp only [Nat.sub_self] at HKX7
                      go_wp2_with fail
                      exact ⟨⟨f', Tr.behind sh L, K.drop sh.length, done, false, aN, cN, some ⟨bk, ok, none⟩, 0, rfl, by rw [List.length_drop, hz], rfl, ⟨HI.out.1, by rw [List.length_drop]; exact HKX7.out, HFIT'.out, HAP'.out, HLEN'.out, HF'.out, HK16'.out, HKL'.out, HOW7.out, HBW7.out, HEQ6.out⟩⟩, by show 0 < K.length; omega⟩
                    · have HKX7 := hid (brdX_turn (HKX.out _ (if_neg hck).symm) HI.out.2.size (fun _ _ h => h) (fun x hx _ => HI.out.2.block x hx))
                      go_wp2_with fail
                      exact ⟨⟨f', Tr.behind sh L, K.drop sh.length, done, false, aN, cN, some ⟨bk, ok + sh.length, none⟩, ck - sh.length, rfl, by rw [List.length_drop], rfl, ⟨HI.out.1, by rw [List.length_drop]; exact HKX7.out, HFIT'.out, HAP'.out, HLEN'.out, HF'.out, HK16'.out, HKL'.out, HOW7.out, HBW7.out, HEQ6.out⟩⟩, by show K.length - sh.length < K.length; omega⟩
              · have HDONE : Hid (done = goal) := by
                  have h := HEQ5.out
                  rw [HEX.out, if_neg, List.append_nil] at h
                  · exact h
                  · rw [List.isPrefixOf_iff_prefix]
                    intro hh
                    exact heq (List.prefix_iff_eq_take.1 hh).symm
                have hbq : (S1.toList == S2.toList) = false := by
                  rw [beq_eq_false_iff_ne, ByteArray.toList_eq, ByteArray.toList_eq, hS1, hS2]
                  exact heq
                have HOX := hid HOW6.out
                have HBX := hid HBW6.out
                clear hget hcD hcK hS1 hS2 heq HPT HEX HEQ5 HAD' hbr0 HST HER5 HKD5 HOW5 HBW5 HKD6 hcellk hown5 hple HER6 HOW6 HKX HKC
                go_wp2_with fail
                go_quiet (fail)
                clear cv1 cv2 e0 hbq
                go_wp2_with fail
                refine bodyPost_ret (v := .tuple #[.slice av done.length cv, .int .i64 0]) (by simp [results, Try.results28, go_sem]) rfl ⟨_, rfl, ?_, below_drewN HBX.out _⟩
                rw [← HDONE.out]
                exact HOX.out
end Go.Proofs.Ytbmohenjphmlgaa
