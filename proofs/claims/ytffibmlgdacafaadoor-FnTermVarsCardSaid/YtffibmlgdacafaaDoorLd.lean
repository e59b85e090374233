/- The law of TermVars over drawn terms: the walk. -/
import Derived.Test.YtffibmlgdacafaaDoorYe
import Derived.Test.YtffibmlgdacafaaDoorVi
import Derived.Deep.RegionHeld3
set_option linter.unusedSimpArgs false
set_option linter.unusedVariables false
namespace Go.Proofs.YtffibmlgdacafaaDoor.Um
open Go.RowKit Pl Ft Mm In C2 Im Src

set_option maxRecDepth 100000 in
set_option maxHeartbeats 8000000 in
theorem termVarsLaw_w (a : Option Addr) (len cap : Nat) (zs : List Int) (w : World) (hB : Bytes w a len zs) (hT : Tabs w) :
    Calls Tryd.prog 6 #[.slice a len cap] w fun e w' => e = .returned (.bool true) ∧ Below w.heap.size w w' := by
  have hs := hB.small
  have H := hid hB
  have HT := hid hT
  clear hB hT
  go_enter Tryd.func6, Tryd.ntmps6
  go_wp2_with fail
  refine (drawTermVars_c a len cap zs w H.out).mono ?_
  rintro e w1 ⟨t, vt, rfl, hrd, hwd, hb1⟩
  obtain ⟨st, ct, rfl⟩ := hrd.slice
  obtain ⟨t0, t1, t2, lt, hp⟩ := Pt.of t
  have HP := hid hp
  rw [hp.val]
  rw [hp.l] at hrd ⊢
  clear hp
  have hal := (Below.refl w1.heap.size w1).alloc (Nat.le_refl _) (.cells #[.int .i64 t0, .int .i64 t1, .string t2, .slice st lt ct] 28)
  have HX2 := hid (Row.new w1 28 #[.int .i64 t0, .int .i64 t1, .string t2, .slice st lt ct])
  have HB2 := hid (hb1.trans (hal.mono hb1.size))
  have HR2 := hid (hrd.on hal)
  have HWd := hid (show t.wide ≤ 1048576 by omega)
  obtain ⟨gt, hgt⟩ : ∃ q, w1.heap.size = q := ⟨_, rfl⟩
  obtain ⟨L, hL⟩ : ∃ L, (if termOk t then varsT 14 t else []) = L := ⟨_, rfl⟩
  have HL := hid hL
  have HLl := hid (show L.length ≤ 60 by
    rw [← hL]
    split
    · rename_i h
      exact Nat.le_trans (vars_len 14 t) (termOk_bd h).2
    · simp)
  have HTv := hid (fun (wx : World) (h1 : KRd wx 8 (.slice st lt ct) t.kids) (h2 : Tabs wx) => (show Calls Tryd.prog 27 #[.agg #[.int .i64 t0, .int .i64 t1, .string t2, .slice st lt ct]] wx (SPost L wx) from hL ▸ HP.out.val (.slice st lt ct) ▸ termVars_c 8 t (.slice st lt ct) wx h1 HWd.out h2))
  have HTs := hid (fun (wx : World) (h1 : KRd wx 8 (.slice st lt ct) t.kids) => (show Calls Tryd.prog 28 #[.agg #[.int .i64 t0, .int .i64 t1, .string t2, .slice st lt ct]] wx (SPost L wx) from hL ▸ HP.out.val (.slice st lt ct) ▸ sTermVars_c 8 t (.slice st lt ct) wx h1 HWd.out))
  clear hrd hwd hb1 hal hL
  go_wp2_with fail
  generalize hw2 : w1.alloc (.cells #[.int .i64 t0, .int .i64 t1, .string t2, .slice st lt ct] 28) = w2 at HX2 HB2 HR2 ⊢
  rw [hgt] at HX2
  (try rw [hgt])
  clear hw2 hgt
  refine (HTv.out _ HR2.out (HT.out.on HB2.out)).mono ?_
  rintro e w3 ⟨v3, rfl, hown3, hb3⟩
  have HR3 := hid (HR2.out.on hb3)
  have HX3 := hid (HX2.out.on hb3)
  have HB3 := hid (HB2.out.trans (hb3.mono HB2.out.size))
  have HS3 := hid (SRd.of_own hown3)
  clear hown3 hb3
  obtain ⟨a3, c3, rfl, _⟩ := HS3.out
  have d0 := HX3.out.cell 0
  have d1 := HX3.out.cell 1
  have d2 := HX3.out.cell 2
  have d3 := HX3.out.cell 3
  simp at d0 d1 d2 d3
  go_wp2_with fail
  refine (HTs.out _ HR3.out).mono ?_
  rintro e w4 ⟨v4, rfl, hown4, hb4⟩
  have HR4 := hid (HR3.out.on hb4)
  have HX4 := hid (HX3.out.on hb4)
  have HB4 := hid (HB3.out.trans (hb4.mono HB3.out.size))
  have HS4 := hid (HS3.out.on hb4)
  have HS4b := hid (SRd.of_own hown4)
  clear hown4 hb4 d0 d1 d2 d3
  obtain ⟨a4, c4, rfl, _⟩ := HS4b.out
  go_wp2_with fail
  refine (SameTexts_c L _ _ w4 HS4.out HS4b.out (by have := HLl.out; omega)).mono ?_
  rintro e w6 ⟨rfl, hb6⟩
  have HR6 := hid (HR4.out.on hb6)
  have HX6 := hid (HX4.out.on hb6)
  have HB6 := hid (HB4.out.trans (hb6.mono HB4.out.size))
  have HS6 := hid (HS4.out.on hb6)
  clear hb6
  by_cases h0 : L = []
  · have hl0 : ((L.length : Int) == 0) = true := by rw [h0]; rfl
    clear h0
    go_wp2_with fail
    go_ret
    exact ⟨rfl, HB6.out⟩
  have hlp : 0 < L.length := List.length_pos_iff.2 h0
  have hl0 : ((L.length : Int) == 0) = false := beq_false_of_ne (by omega)
  have hok : termOk t = true := by
    cases h : termOk t with
    | true => rfl
    | false => have := HL.out; rw [h] at this; exact absurd this.symm h0
  have hLv : varsT 14 t = L := by have := HL.out; rw [hok] at this; exact this
  obtain ⟨s, hsg⟩ : ∃ s, L.getD 0 ⟨#[]⟩ = s := ⟨_, rfl⟩
  have hsm : s ∈ L := by rw [← hsg]; simp [hlp]
  obtain ⟨hpk, hrk, hgo⟩ := vars_put hok (hLv ▸ hsm)
  obtain ⟨R, hR⟩ : ∃ r, putR t s (nT 1) = r := ⟨_, rfl⟩
  obtain ⟨q0, q1, q2, lR, hq⟩ := Pt.of R
  have HQ := hid hq
  rw [hR] at hrk hgo
  have HRk := hid hrk
  have HGo := hid hgo
  have hsz : s.size ≤ 1048576 := by
    have := vars_free 14 t (termOk_bd hok).1 s (hLv ▸ hsm)
    have := name_len (show isName s = true by unfold freeName at this; simp only [Bool.and_eq_true] at this; exact this.2)
    omega
  have HPu := hid (fun (wx : World) (hb : Below w6.heap.size w6 wx) => (show Calls Tryd.prog 30 #[.agg #[.int .i64 t0, .int .i64 t1, .string t2, .slice st lt ct], .string s, .agg #[.int .i64 0, .int .i64 1, .string ⟨#[]⟩, .slice none 0 0]] wx (fun e w' => ∃ sR cR, e = .returned (.tuple #[.agg #[.int .i64 q0, .int .i64 q1, .string q2, .slice sR lR cR], .bool true]) ∧ KOwn w' 28 wx.heap.size w'.heap.size (.slice sR lR cR) R.kids ∧ Below wx.heap.size wx w') from by
    have := termPut_c 8 1 t s (nT 1) (.slice st lt ct) (.slice none 0 0) wx (HR6.out.on hb) (KRd.nil wx 1 none 0) HWd.out (by rw [nT_wide]; omega) hsz (HT.out.on (HB6.out.trans (hb.mono HB6.out.size)))
    rw [HP.out.val] at this
    refine this.mono ?_
    rintro e w' ⟨v', rfl, hown, hbl⟩
    rw [hR] at hown ⊢
    obtain ⟨sR, cR, rfl⟩ := hown.slice
    rw [hq.l] at hown ⊢
    exact ⟨sR, cR, by rw [hq.val, hpk], hown, hbl⟩))
  obtain ⟨a6, c6, he6, hc6⟩ := HS6.out
  simp only [Value.slice.injEq, true_and] at he6
  obtain ⟨rfl, rfl⟩ := he6
  rcases hc6 with hn | ⟨g, o, rfl, hg, hc⟩
  · exact absurd hn h0
  have c0 := hc 0 hlp
  rw [hsg, Nat.add_zero] at c0
  have HSx := hid (fun (wx : World) (hb : Below w6.heap.size w6 wx) => (show wx.cell? ⟨gt, 0, none⟩ = some (.int .i64 t0) ∧ wx.cell? ⟨gt, 1, none⟩ = some (.int .i64 t1) ∧ wx.cell? ⟨gt, 2, none⟩ = some (.string t2) ∧ wx.cell? ⟨gt, 3, none⟩ = some (.slice st lt ct) ∧ wx.cell? ⟨g, o, none⟩ = some (.string s) from by
    have e0 := (HX6.out.on hb).cell 0
    have e1 := (HX6.out.on hb).cell 1
    have e2 := (HX6.out.on hb).cell 2
    have e3 := (HX6.out.on hb).cell 3
    exact ⟨e0, e1, e2, e3, (hb.cell (p := ⟨g, o, none⟩) hg).trans c0⟩))
  have HE0 := hid (Below.refl w6.heap.size w6).drew
  have hl1 : (0 : Int) < L.length := by omega
  have HG := hid (And.intro hg c0)
  clear hq hR hrk hgo hpk hsz hsm hLv hok h0 hc c0 hg hsg
  go_upto_region 9 with fail
  go_cut [7, 8] (fun v7 v8 wx => ∃ (gx : Nat) (sR : Option Addr) (cR : Nat), v7 = .pointer (some ⟨gx, 0, none⟩) ∧ v8 = .bool true ∧ Row wx gx 28 #[.int .i64 q0, .int .i64 q1, .string q2, .slice sR lR cR] ∧ KRd wx 28 (.slice sR lR cR) R.kids ∧ Below w6.heap.size w6 wx)
  case first =>
    refine wp_region_held_drew (S := fun w' => w'.cell? ⟨gt, 0, none⟩ = some (.int .i64 t0) ∧ w'.cell? ⟨gt, 1, none⟩ = some (.int .i64 t1) ∧ w'.cell? ⟨gt, 2, none⟩ = some (.string t2) ∧ w'.cell? ⟨gt, 3, none⟩ = some (.slice st lt ct) ∧ w'.cell? ⟨g, o, none⟩ = some (.string s)) (by kernel_rfl) (HSx.out _ HE0.out) (fun hHeld => ?_)
    refine wpAnyH_take (i := 0) (v := _) rfl (by kernel_rfl) (by kernel_rfl) (by kernel_rfl) (fun _ _ _ h => h) (Or.inl ⟨by rfl, by (intro w hSw; (try dsimp only at hSw); go_simp; first | done | with_reducible rfl)⟩) hHeld ?_
    (try simp only [Act.put, List.setIfInBounds_toArray, List.set_cons_zero, List.set_cons_succ])
    refine wpAnyH_take (i := 1) (v := _) rfl (by kernel_rfl) (by kernel_rfl) (by kernel_rfl) (fun _ _ _ h => h) (Or.inl ⟨by rfl, by (intro w hSw; (try dsimp only at hSw); go_simp; first | done | with_reducible rfl)⟩) hHeld ?_
    (try simp only [Act.put, List.setIfInBounds_toArray, List.set_cons_zero, List.set_cons_succ])
    refine wpAnyH_take (i := 2) (v := _) rfl (by kernel_rfl) (by kernel_rfl) (by kernel_rfl) (fun _ _ _ h => h) (Or.inl ⟨by rfl, by (intro w hSw; (try dsimp only at hSw); go_simp; first | done | with_reducible rfl)⟩) hHeld ?_
    (try simp only [Act.put, List.setIfInBounds_toArray, List.set_cons_zero, List.set_cons_succ])
    refine wpAnyH_take (i := 3) (v := _) rfl (by kernel_rfl) (by kernel_rfl) (by kernel_rfl) (fun _ _ _ h => h) (Or.inl ⟨by rfl, by (intro w hSw; (try dsimp only at hSw); go_simp; first | done | with_reducible rfl)⟩) hHeld ?_
    (try simp only [Act.put, List.setIfInBounds_toArray, List.set_cons_zero, List.set_cons_succ])
    refine wpAnyH_take (i := 4) (v := _) rfl (by kernel_rfl) (by kernel_rfl) (by kernel_rfl) (fun _ _ _ h => h) (Or.inl ⟨by rfl, by (intro w hSw; (try dsimp only at hSw); go_simp; first | done | with_reducible rfl)⟩) hHeld ?_
    (try simp only [Act.put, List.setIfInBounds_toArray, List.set_cons_zero, List.set_cons_succ])
    generalize w6.drew = v0 at HE0 hHeld ⊢
    refine wpAnyH_ready (rs := [5, 9]) (by kernel_rfl) (by simp) ?_
    refine AllReadyH.cons rfl (fun K hK => ?_) (AllReadyH.cons rfl (fun K hK => ?_) AllReadyH.nil)
    · go_simp
      go_at_call 30
      refine (HPu.out _ HE0.out).mono ?_
      rintro e v1 ⟨sR, cR, rfl, hown, hbx⟩
      have HE1 := hid (HE0.out.trans (hbx.mono HE0.out.size))
      have HO1 := hid hown
      simp only
      refine hK.out _ _ (HSx.out _ HE1.out) (fun hHeld => ?_)
      clear hK K hown hbx
      (try simp only [Act.put, List.setIfInBounds_toArray, List.set_cons_zero, List.set_cons_succ])
      refine wpAnyH_take (i := 6) (v := _) rfl (by kernel_rfl) (by kernel_rfl) (by kernel_rfl) (fun _ _ _ h => h) (Or.inl ⟨by rfl, by (intro w hSw; (try dsimp only at hSw); go_simp; first | done | with_reducible rfl)⟩) hHeld ?_
      (try simp only [Act.put, List.setIfInBounds_toArray, List.set_cons_zero, List.set_cons_succ])
      refine wpAnyH_take (i := 7) (v := _) rfl (by kernel_rfl) (by kernel_rfl) (by kernel_rfl) (fun _ _ _ h => h) (Or.inl ⟨by rfl, by (intro w hSw; (try dsimp only at hSw); go_simp; first | done | with_reducible rfl)⟩) hHeld ?_
      (try simp only [Act.put, List.setIfInBounds_toArray, List.set_cons_zero, List.set_cons_succ])
      refine wpAnyH_take (i := 8) (v := _) rfl (by kernel_rfl) (by kernel_rfl) (by kernel_rfl) (fun _ _ _ h => h) (Or.inl ⟨by rfl, by (intro w hSw; (try dsimp only at hSw); go_simp; first | done | with_reducible rfl)⟩) hHeld ?_
      (try simp only [Act.put, List.setIfInBounds_toArray, List.set_cons_zero, List.set_cons_succ])
      refine wpAnyH_ready (rs := [9]) (by kernel_rfl) (by simp) ?_
      refine AllReadyH.cons rfl (fun K hK => ?_) AllReadyH.nil
      go_simp
      have hal := (Below.refl v1.heap.size v1).alloc (Nat.le_refl _) (.cells #[.int .i64 0, .int .i64 0, .string ⟨#[]⟩, .slice none 0 0] 28)
      have HE2 := hid (HE1.out.trans (hal.mono HE1.out.size))
      have HN2 := hid (Row.new v1 28 #[.int .i64 0, .int .i64 0, .string ⟨#[]⟩, .slice none 0 0])
      have HK2 := hid (HO1.out.on hal)
      refine hK.out _ _ (HSx.out _ HE2.out) (fun hHeld => ?_)
      clear hK K
      (try simp only [Act.put, List.setIfInBounds_toArray, List.set_cons_zero, List.set_cons_succ])
      generalize hv2 : v1.alloc (.cells #[.int .i64 0, .int .i64 0, .string ⟨#[]⟩, .slice none 0 0] 28) = v2 at HE2 HN2 HK2 hHeld hal ⊢
      clear hv2
      refine wpAnyH_ready (rs := [10]) (by kernel_rfl) (by simp) ?_
      refine AllReadyH.cons rfl (fun K hK => ?_) AllReadyH.nil
      have n0 := HN2.out.cell 0
      have n1 := HN2.out.cell 1
      have n2 := HN2.out.cell 2
      have n3 := HN2.out.cell 3
      simp at n0 n1 n2 n3
      have hnf := HN2.out.free
      have hnl := HN2.out.lt
      go_simp
      have hg1 := HE1.out.size
      refine hK.out _ _ (HSx.out _ (four_bel HE2.out hg1 _ _ _ _)) (fun hHeld => ?_)
      clear hK K n0 n1 n2 n3 hnf
      (try simp only [Act.put, List.setIfInBounds_toArray, List.set_cons_zero, List.set_cons_succ])
      refine wpAnyH_ready (rs := [11]) (by kernel_rfl) (by simp) ?_
      refine AllReadyH.cons rfl (fun K hK => ?_) AllReadyH.nil
      go_simp
      refine hK.out _ _ hHeld (fun _ => ?_)
      clear hK K
      (try simp only [Act.put, List.setIfInBounds_toArray, List.set_cons_zero, List.set_cons_succ])
      refine wpAnyH_done (by kernel_rfl) ?_ _
      go_wp2_with fail
      go_meet
      exact ⟨v1.heap.size, sR, cR, rfl, rfl, four_row HN2.out _ _ _ _, (HK2.out.keep (fun b _ h2 _ => four_far _ _ _ (by omega) _ _ _ _ _ _ _ _)).rd, four_bel HE2.out hg1 _ _ _ _⟩
    · go_simp
      have hal := (Below.refl v0.heap.size v0).alloc (Nat.le_refl _) (.cells #[.int .i64 0, .int .i64 0, .string ⟨#[]⟩, .slice none 0 0] 28)
      have HE1 := hid (HE0.out.trans (hal.mono HE0.out.size))
      have HN1 := hid (Row.new v0 28 #[.int .i64 0, .int .i64 0, .string ⟨#[]⟩, .slice none 0 0])
      have hg1 := HE0.out.size
      refine hK.out _ _ (HSx.out _ HE1.out) (fun hHeld => ?_)
      clear hK K
      (try simp only [Act.put, List.setIfInBounds_toArray, List.set_cons_zero, List.set_cons_succ])
      obtain ⟨gn, hgn⟩ : ∃ q, v0.heap.size = q := ⟨_, rfl⟩
      generalize hv1 : v0.alloc (.cells #[.int .i64 0, .int .i64 0, .string ⟨#[]⟩, .slice none 0 0] 28) = v1 at HE1 HN1 hHeld hal ⊢
      rw [hgn] at HN1 hg1
      (try rw [hgn])
      clear hv1 hgn hal
      refine wpAnyH_ready (rs := [5]) (by kernel_rfl) (by simp) ?_
      refine AllReadyH.cons rfl (fun K hK => ?_) AllReadyH.nil
      go_simp
      go_at_call 30
      refine (HPu.out _ HE1.out).mono ?_
      rintro e v2 ⟨sR, cR, rfl, hown, hbx⟩
      have HE2 := hid (HE1.out.trans (hbx.mono HE1.out.size))
      have HO2 := hid hown
      simp only
      have HN2 := hid (HN1.out.on hbx)
      have hn1 := HN1.out.lt
      refine hK.out _ _ (HSx.out _ HE2.out) (fun hHeld => ?_)
      clear hK K hown hbx
      (try simp only [Act.put, List.setIfInBounds_toArray, List.set_cons_zero, List.set_cons_succ])
      refine wpAnyH_take (i := 6) (v := _) rfl (by kernel_rfl) (by kernel_rfl) (by kernel_rfl) (fun _ _ _ h => h) (Or.inl ⟨by rfl, by (intro w hSw; (try dsimp only at hSw); go_simp; first | done | with_reducible rfl)⟩) hHeld ?_
      (try simp only [Act.put, List.setIfInBounds_toArray, List.set_cons_zero, List.set_cons_succ])
      refine wpAnyH_take (i := 7) (v := _) rfl (by kernel_rfl) (by kernel_rfl) (by kernel_rfl) (fun _ _ _ h => h) (Or.inl ⟨by rfl, by (intro w hSw; (try dsimp only at hSw); go_simp; first | done | with_reducible rfl)⟩) hHeld ?_
      (try simp only [Act.put, List.setIfInBounds_toArray, List.set_cons_zero, List.set_cons_succ])
      refine wpAnyH_take (i := 8) (v := _) rfl (by kernel_rfl) (by kernel_rfl) (by kernel_rfl) (fun _ _ _ h => h) (Or.inl ⟨by rfl, by (intro w hSw; (try dsimp only at hSw); go_simp; first | done | with_reducible rfl)⟩) hHeld ?_
      (try simp only [Act.put, List.setIfInBounds_toArray, List.set_cons_zero, List.set_cons_succ])
      refine wpAnyH_ready (rs := [10]) (by kernel_rfl) (by simp) ?_
      refine AllReadyH.cons rfl (fun K hK => ?_) AllReadyH.nil
      have n0 := HN2.out.cell 0
      have n1 := HN2.out.cell 1
      have n2 := HN2.out.cell 2
      have n3 := HN2.out.cell 3
      simp at n0 n1 n2 n3
      have hnf := HN2.out.free
      have hnl := HN2.out.lt
      go_simp
      refine hK.out _ _ (HSx.out _ (four_bel HE2.out hg1 _ _ _ _)) (fun hHeld => ?_)
      clear hK K n0 n1 n2 n3 hnf
      (try simp only [Act.put, List.setIfInBounds_toArray, List.set_cons_zero, List.set_cons_succ])
      refine wpAnyH_ready (rs := [11]) (by kernel_rfl) (by simp) ?_
      refine AllReadyH.cons rfl (fun K hK => ?_) AllReadyH.nil
      go_simp
      refine hK.out _ _ hHeld (fun _ => ?_)
      clear hK K
      (try simp only [Act.put, List.setIfInBounds_toArray, List.set_cons_zero, List.set_cons_succ])
      refine wpAnyH_done (by kernel_rfl) ?_ _
      go_wp2_with fail
      go_meet
      exact ⟨gn, sR, cR, rfl, rfl, four_row HN2.out _ _ _ _, (HO2.out.keep (fun b h1 _ _ => four_far _ _ _ (by omega) _ _ _ _ _ _ _ _)).rd, four_bel HE2.out hg1 _ _ _ _⟩
  case rest =>
  obtain ⟨gx, sR, cR, rfl, rfl, hrow, hkr, hb7⟩ := hcut
  generalize wc = w7 at hrow hkr hb7 ⊢
  have HX7 := hid hrow
  have HR7 := hid hkr
  have HB7 := hid (HB6.out.trans (hb7.mono HB6.out.size))
  have HC7 := hid ((hb7.cell (p := ⟨g, o, none⟩) HG.out.1).trans HG.out.2)
  have HS7 := hid (HS6.out.on hb7)
  have HZ7 := hid hb7.size
  clear hrow hkr hb7 HSx HE0
  have HVr := hid (show (if termOk R then varsT 14 R else []) = varsT 14 R by rw [HRk.out]; rfl)
  have hno : hasText (varsT 14 R) s = false := by
    cases h : hasText (varsT 14 R) s with
    | false => rfl
    | true => exact absurd (hasText_mem.1 h) HGo.out
  have HNo := hid hno
  have HVl := hid (show (varsT 14 R).length ≤ 60 from Nat.le_trans (vars_len 14 R) (termOk_bd HRk.out).2)
  have HTx := hid (fun (wx : World) (hb : Below w7.heap.size w7 wx) => (show Calls Tryd.prog 27 #[.agg #[.int .i64 q0, .int .i64 q1, .string q2, .slice sR lR cR]] wx (SPost (varsT 14 R) wx) from by
    have := termVars_c 28 R (.slice sR lR cR) wx (HR7.out.on hb) (by have := ok_wide HRk.out; omega) (HT.out.on (HB7.out.trans (hb.mono HB7.out.size)))
    rw [HQ.out.val, HVr.out] at this
    exact this))
  have HSy := hid (fun (wx : World) (hb : Below w7.heap.size w7 wx) => (show wx.cell? ⟨gx, 0, none⟩ = some (.int .i64 q0) ∧ wx.cell? ⟨gx, 1, none⟩ = some (.int .i64 q1) ∧ wx.cell? ⟨gx, 2, none⟩ = some (.string q2) ∧ wx.cell? ⟨gx, 3, none⟩ = some (.slice sR lR cR) ∧ wx.cell? ⟨g, o, none⟩ = some (.string s) from by
    have e0 := (HX7.out.on hb).cell 0
    have e1 := (HX7.out.on hb).cell 1
    have e2 := (HX7.out.on hb).cell 2
    have e3 := (HX7.out.on hb).cell 3
    exact ⟨e0, e1, e2, e3, (hb.cell (p := ⟨g, o, none⟩) (Nat.lt_of_lt_of_le HG.out.1 HZ7.out)).trans HC7.out⟩))
  have HE0 := hid (Below.refl w7.heap.size w7).drew
  clear hno
  go_upto_region 10 with fail
  refine wp_region_held_drew (S := fun w' => w'.cell? ⟨gx, 0, none⟩ = some (.int .i64 q0) ∧ w'.cell? ⟨gx, 1, none⟩ = some (.int .i64 q1) ∧ w'.cell? ⟨gx, 2, none⟩ = some (.string q2) ∧ w'.cell? ⟨gx, 3, none⟩ = some (.slice sR lR cR) ∧ w'.cell? ⟨g, o, none⟩ = some (.string s)) (by kernel_rfl) (HSy.out _ HE0.out) (fun hHeld => ?_)
  refine wpAnyH_take (i := 0) (v := _) rfl (by kernel_rfl) (by kernel_rfl) (by kernel_rfl) (fun _ _ _ h => h) (Or.inl ⟨by rfl, by (intro w hSw; (try dsimp only at hSw); go_simp; first | done | with_reducible rfl)⟩) hHeld ?_
  (try simp only [Act.put, List.setIfInBounds_toArray, List.set_cons_zero, List.set_cons_succ])
  refine wpAnyH_take (i := 1) (v := _) rfl (by kernel_rfl) (by kernel_rfl) (by kernel_rfl) (fun _ _ _ h => h) (Or.inl ⟨by rfl, by (intro w hSw; (try dsimp only at hSw); go_simp; first | done | with_reducible rfl)⟩) hHeld ?_
  (try simp only [Act.put, List.setIfInBounds_toArray, List.set_cons_zero, List.set_cons_succ])
  refine wpAnyH_take (i := 2) (v := _) rfl (by kernel_rfl) (by kernel_rfl) (by kernel_rfl) (fun _ _ _ h => h) (Or.inl ⟨by rfl, by (intro w hSw; (try dsimp only at hSw); go_simp; first | done | with_reducible rfl)⟩) hHeld ?_
  (try simp only [Act.put, List.setIfInBounds_toArray, List.set_cons_zero, List.set_cons_succ])
  refine wpAnyH_take (i := 4) (v := _) rfl (by kernel_rfl) (by kernel_rfl) (by kernel_rfl) (fun _ _ _ h => h) (Or.inl ⟨by rfl, by (intro w hSw; (try dsimp only at hSw); go_simp; first | done | with_reducible rfl)⟩) hHeld ?_
  (try simp only [Act.put, List.setIfInBounds_toArray, List.set_cons_zero, List.set_cons_succ])
  refine wpAnyH_take (i := 5) (v := _) rfl (by kernel_rfl) (by kernel_rfl) (by kernel_rfl) (fun _ _ _ h => h) (Or.inl ⟨by rfl, by (intro w hSw; (try dsimp only at hSw); go_simp; first | done | with_reducible rfl)⟩) hHeld ?_
  (try simp only [Act.put, List.setIfInBounds_toArray, List.set_cons_zero, List.set_cons_succ])
  refine wpAnyH_take (i := 6) (v := _) rfl (by kernel_rfl) (by kernel_rfl) (by kernel_rfl) (fun _ _ _ h => h) (Or.inl ⟨by rfl, by (intro w hSw; (try dsimp only at hSw); go_simp; first | done | with_reducible rfl)⟩) hHeld ?_
  (try simp only [Act.put, List.setIfInBounds_toArray, List.set_cons_zero, List.set_cons_succ])
  generalize w7.drew = v0 at HE0 hHeld ⊢
  refine wpAnyH_ready (rs := [3]) (by kernel_rfl) (by simp) ?_
  refine AllReadyH.cons rfl (fun K hK => ?_) AllReadyH.nil
  go_simp
  go_at_call 27
  refine (HTx.out _ HE0.out).mono ?_
  rintro e v1 ⟨vv, rfl, hown, hbx⟩
  have HE1 := hid (HE0.out.trans (hbx.mono HE0.out.size))
  have HSr := hid (SRd.of_own hown)
  clear hown hbx
  obtain ⟨av, cv, rfl, _⟩ := HSr.out
  simp only
  refine hK.out _ _ (HSy.out _ HE1.out) (fun hHeld => ?_)
  clear hK K
  (try simp only [Act.put, List.setIfInBounds_toArray, List.set_cons_zero, List.set_cons_succ])
  refine wpAnyH_ready (rs := [7]) (by kernel_rfl) (by simp) ?_
  refine AllReadyH.cons rfl (fun K hK => ?_) AllReadyH.nil
  go_simp
  go_at_call 31
  refine (InTexts_c (varsT 14 R) _ s v1 HSr.out (by have := HVl.out; omega)).mono ?_
  rintro e v2 ⟨rfl, hv⟩
  rw [HNo.out]
  subst hv
  simp only
  refine hK.out _ _ hHeld (fun hHeld => ?_)
  clear hK K
  (try simp only [Act.put, List.setIfInBounds_toArray, List.set_cons_zero, List.set_cons_succ])
  refine wpAnyH_take (i := 8) (v := _) rfl (by kernel_rfl) (by kernel_rfl) (by kernel_rfl) (fun _ _ _ h => h) (Or.inl ⟨by rfl, by (intro w hSw; (try dsimp only at hSw); go_simp; first | done | with_reducible rfl)⟩) hHeld ?_
  (try simp only [Act.put, List.setIfInBounds_toArray, List.set_cons_zero, List.set_cons_succ])
  refine wpAnyH_take (i := 9) (v := _) rfl (by kernel_rfl) (by kernel_rfl) (by kernel_rfl) (fun _ _ _ h => h) (Or.inl ⟨by rfl, by (intro w hSw; (try dsimp only at hSw); go_simp; first | done | with_reducible rfl)⟩) hHeld ?_
  (try simp only [Act.put, List.setIfInBounds_toArray, List.set_cons_zero, List.set_cons_succ])
  refine wpAnyH_ready (rs := [10]) (by kernel_rfl) (by simp) ?_
  refine AllReadyH.cons rfl (fun K hK => ?_) AllReadyH.nil
  go_simp
  refine hK.out _ _ hHeld (fun _ => ?_)
  clear hK K
  (try simp only [Act.put, List.setIfInBounds_toArray, List.set_cons_zero, List.set_cons_succ])
  refine wpAnyH_done (by kernel_rfl) ?_ _
  go_wp2_with fail
  go_ret
  exact ⟨rfl, HB7.out.trans (HE1.out.mono HB7.out.size)⟩
end Go.Proofs.YtffibmlgdacafaaDoor.Um
