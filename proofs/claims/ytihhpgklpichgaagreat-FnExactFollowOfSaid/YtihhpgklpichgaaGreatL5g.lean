/- The exact law of FollowOf: the walk. -/
import Derived.Test.YtihhpgklpichgaaGreatFo
import Derived.Test.YtihhpgklpichgaaGreatL3a
import Derived.Test.YtihhpgklpichgaaGreatMark
import Derived.Test.YtihhpgklpichgaaGreatSwCap
set_option linter.unusedSimpArgs false
set_option linter.unusedVariables false
namespace Go.Proofs.YtihhpgklpichgaaGreat.Wk
open Go.RowKit Pl Ft Mm In C2 Im Sw

set_option maxRecDepth 100000 in
set_option maxHeartbeats 2000000 in
theorem exactFollowOf_w (m : Img) (vc vd vn : Value) (w : World) (hc : Rd w vc m.code) (hd : Rd w vd m.data) (hn : NRd w vn m.names) (hw : Wide m) :
    Calls Tryz.prog 3 #[imgVal vc vd vn m] w fun e w' => e = .returned (.bool true) ∧ Below w.heap.size w w' := by
  have HC := hid hc
  have HD := hid hd
  have HN := hid hn
  have HW := hid hw
  clear hc hd hn hw
  have hV : imgVal vc vd vn m = .agg #[vc, .int .i64 m.entry, .int .i64 m.room, vd, vn] := rfl
  rw [hV]
  clear hV
  have hbl : (followP m).length ≤ 1000000 := followP_len m
  obtain ⟨bs, hbs⟩ : ∃ bs, followP m = bs := ⟨_, rfl⟩
  rw [hbs] at hbl
  have HBs := hid hbs
  clear hbs
  have HX0 := hid (Row.new w 25 #[vc, .int .i64 m.entry, .int .i64 m.room, vd, vn])
  have HB0 := hid ((Below.refl w.heap.size w).alloc (Nat.le_refl _) (.cells #[vc, .int .i64 m.entry, .int .i64 m.room, vd, vn] 25))
  go_enter Tryz.func3, Tryz.ntmps3
  go_wp2_with fail
  refine (szImage_c m vc vd vn _ _ (HC.out.on HB0.out) (HD.out.on HB0.out) (HN.out.on HB0.out) HW.out (by omega) (by omega)).mono ?_
  rintro e w1 ⟨y, rfl, hx1, hx0, hxp, hb1⟩
  have HB1 := hid (HB0.out.trans (hb1.mono HB0.out.size))
  have HX1 := hid (HX0.out.on hb1)
  have HP := hid hxp
  have hz1 := hb1.size
  simp only [World.size_alloc] at hz1
  clear hb1 hxp
  by_cases hx : 0 ≤ y
  case neg =>
    go_wp2_with fail
    go_ret
    exact ⟨rfl, HB1.out⟩
  have HS := hid (HP.out hx)
  have x0 := HX1.out.cell 0
  have x1 := HX1.out.cell 1
  have x2 := HX1.out.cell 2
  have x3 := HX1.out.cell 3
  have x4 := HX1.out.cell 4
  simp at x0 x1 x2 x3 x4
  go_wp2_with fail
  refine (toImage_c m vc vd vn _ (HC.out.on HB1.out) (HD.out.on HB1.out) (HN.out.on HB1.out) HS.out).mono ?_
  rintro e w2 ⟨ac, ad, an, rfl, hown2, hb2⟩
  have HO2 := hid hown2
  have HB2 := hid (HB1.out.trans (hb2.mono HB1.out.size))
  have HX2 := hid (HX1.out.on hb2)
  have hz2 := hb2.size
  clear hown2 hb2 x0 x1 x2 x3 x4
  go_wp2_with fail
  refine (sFollow_c m ac ad an _ HO2.out.cells HS.out).mono ?_
  rintro e w3 ⟨v0, rfl, hown3, hb3⟩
  rw [HBs.out] at hown3
  have HV3 := hid hown3
  have HVlt := hid (fun g hg => (hown3.lt g hg).2)
  have HB3 := hid (HB2.out.trans (hb3.mono HB2.out.size))
  have HX3 := hid (HX2.out.on hb3)
  have hz3 := hb3.size
  clear hown3 hb3
  have x0 := HX3.out.cell 0
  have x1 := HX3.out.cell 1
  have x2 := HX3.out.cell 2
  have x3 := HX3.out.cell 3
  have x4 := HX3.out.cell 4
  simp at x0 x1 x2 x3 x4
  go_wp2_with fail
  refine (toImage_c m vc vd vn _ (HC.out.on HB3.out) (HD.out.on HB3.out) (HN.out.on HB3.out) HS.out).mono ?_
  rintro e w4 ⟨bc, bd, bn, rfl, hown4, hb4⟩
  have HO4 := hid hown4
  have HV4 := hid (own_on HV3.out hb4)
  have HB4 := hid (HB3.out.trans (hb4.mono HB3.out.size))
  have HX4 := hid (HX3.out.on hb4)
  have hz4 := hb4.size
  clear hown4 hb4 x0 x1 x2 x3 x4
  obtain ⟨s1, c1, rfl⟩ := own_slice HO4.out.c
  obtain ⟨s2, c2, rfl⟩ := own_slice HO4.out.d
  obtain ⟨s3, c3, rfl⟩ := own_slice HO4.out.n
  have HIn := hid (fun g hg => HO4.out.lt g hg)
  unfold imgVal
  simp only
  go_wp2_with fail
  have hw45 : w4.heap.size < (w4.alloc (.cells #[.slice s1 m.code.length c1, .int .i64 m.entry, .int .i64 m.room, .slice s2 m.data.length c2, .slice s3 m.names.length c3] 30)).heap.size := by simp
  have hal := (Below.refl w4.heap.size w4).alloc (Nat.le_refl _) (.cells #[.slice s1 m.code.length c1, .int .i64 m.entry, .int .i64 m.room, .slice s2 m.data.length c2, .slice s3 m.names.length c3] 30)
  have HY5 := hid (Row.new w4 30 #[.slice s1 m.code.length c1, .int .i64 m.entry, .int .i64 m.room, .slice s2 m.data.length c2, .slice s3 m.names.length c3])
  have HB5 := hid (HB4.out.trans (hal.mono HB4.out.size))
  have HX5 := hid (HX4.out.on hal)
  have HO5 := hid (HO4.out.on hal)
  have HV5 := hid (own_on HV4.out hal)
  clear hal
  refine (follow_c m _ _ _ _ HO5.out.cells HS.out (own_cap3 HO5.out.c)).mono ?_
  rintro e w6 ⟨v1, rfl, hown6, hb6⟩
  rw [HBs.out] at hown6
  have HG6 := hid hown6
  have HG5 := hid (fun g hg => (hown6.lt g hg).1)
  have HY6 := hid (HY5.out.on hb6)
  have HX6 := hid (HX5.out.on hb6)
  have HO6 := hid (HO5.out.on hb6)
  have HV6 := hid (own_on HV5.out hb6)
  have HB6 := hid (HB5.out.trans (hb6.mono HB5.out.size))
  have hz6 := hb6.size
  simp only [World.size_alloc] at hz6 hw45
  clear hown6 hb6
  go_wp2_with fail
  refine (eqIntS_b bs v1 v0 _ (.of_own HG6.out) (.of_own HV6.out) (by omega)).mono ?_
  rintro e w7 ⟨rfl, hb7⟩
  have HG7 := hid (own_on HG6.out hb7)
  have HY7 := hid (HY6.out.on hb7)
  have HX7 := hid (HX6.out.on hb7)
  have HO7 := hid (HO6.out.on hb7)
  have HV7 := hid (own_on HV6.out hb7)
  have HB7 := hid (HB6.out.trans (hb7.mono HB6.out.size))
  have hz7 := hb7.size
  clear hb7
  have x0 := HX7.out.cell 0
  have x1 := HX7.out.cell 1
  have x2 := HX7.out.cell 2
  have x3 := HX7.out.cell 3
  have x4 := HX7.out.cell 4
  have y0 := HY7.out.cell 0
  have y1 := HY7.out.cell 1
  have y2 := HY7.out.cell 2
  have y3 := HY7.out.cell 3
  have y4 := HY7.out.cell 4
  simp at x0 x1 x2 x3 x4 y0 y1 y2 y3 y4
  have hw4 : w4.heap.size < w7.heap.size := by omega
  have hw0 : w.heap.size < w7.heap.size := by omega
  go_upto_region 10 with fail
  go_cut [31] (fun s31 wx => s31 = .bool false ∧ Below w7.heap.size w7 wx)
  case first =>
    go_region_with (first
      | (go_at_call 15; refine (toImage_c m vc vd vn _ (HC.out.on HB7.out.drew) (HD.out.on HB7.out.drew) (HN.out.on HB7.out.drew) HS.out).mono ?_; rintro e wa ⟨tc, td, tn, rfl, howna, hba⟩; have HOa := hid howna; have HBa := hid hba; have HYa := hid (HY7.out.drew.on hba); have z0 := HYa.out.cell 0; have z1 := HYa.out.cell 1; have z2 := HYa.out.cell 2; have z3 := HYa.out.cell 3; have z4 := HYa.out.cell 4; simp at z0 z1 z2 z3 z4; clear howna hba)
      | (go_at_call 18; refine (eqImage_own m _ _ _ _ _ _ _ (HO7.out.on ((Below.refl _ _).drew.trans HBa.out)) HOa.out HS.out).mono ?_; rintro e wb ⟨rfl, hbb⟩; have HBb := hid (((Below.refl w7.heap.size w7).drew.trans HBa.out).trans (hbb.mono HBa.out.size)); clear hbb))
    all_goals
      go_wp2_with fail
      go_meet
      exact ⟨rfl, HBb.out⟩
  case rest =>
    obtain ⟨rfl, hb8⟩ := hcut
    have HG8 := hid (own_on HG7.out hb8)
    have HY8 := hid (HY7.out.on hb8)
    have HX8 := hid (HX7.out.on hb8)
    have HO8 := hid (HO7.out.on hb8)
    have HV8 := hid (own_on HV7.out hb8)
    have HB8 := hid (HB7.out.trans (hb8.mono HB7.out.size))
    have hz8 := hb8.size
    clear hb8 x0 x1 x2 x3 x4 y0 y1 y2 y3 y4
    have y0 := HY8.out.cell 0
    have y1 := HY8.out.cell 1
    have y2 := HY8.out.cell 2
    have y3 := HY8.out.cell 3
    have y4 := HY8.out.cell 4
    simp at y0 y1 y2 y3 y4
    go_wp2_with fail
    refine (markImage_c m w3.heap.size _ _ _ _ HO8.out HS.out).mono ?_
    rintro e w9 ⟨rfl, _, hb9⟩
    have HX9 := hid (row_only HX8.out (fun h => by have := (HIn.out _ h).1; have := HX3.out.lt; omega) hb9)
    have HG9 := hid (own_only HG8.out (fun g hg h => by have := (HIn.out _ h).2; have := HG5.out g hg; simp only [World.size_alloc] at this; omega) hb9)
    have HV9 := hid (own_only HV8.out (fun g hg h => by have := (HIn.out _ h).1; have := HVlt.out g hg; omega) hb9)
    have HB9 := hid (HB8.out.trans (hb9.below HB8.out.size (fun k h => by have := (HIn.out _ h).1; omega)))
    have hz9 := hb9.size
    obtain ⟨q, hq⟩ : ∃ q, markEnd m = q := ⟨_, rfl⟩
    rw [hq]
    clear hb9 hq y0 y1 y2 y3 y4
    go_wp2_with fail
    refine (eqIntS_b bs v1 v0 _ (.of_own HG9.out) (.of_own HV9.out) (by omega)).mono ?_
    rintro e w10 ⟨rfl, hb10⟩
    have HG10 := hid (own_on HG9.out hb10)
    have HX10 := hid (HX9.out.on hb10)
    have HV10 := hid (own_on HV9.out hb10)
    have HB10 := hid (HB9.out.trans (hb10.mono HB9.out.size))
    have hz10 := hb10.size
    clear hb10
    go_wp2_with fail
    refine (markIntS_c _ bs v1 _ HG10.out (by omega)).mono ?_
    rintro e w11 ⟨rfl, hown11, hb11⟩
    simp only [World.size_alloc] at hown11 hb11
    have HG11 := hid hown11
    have HX11 := hid (HX10.out.below hb11 (by omega))
    have HV11 := hid (own_below HV10.out (fun g hg => by have := HVlt.out g hg; omega) hb11)
    have HB11 := hid (HB10.out.trans (hb11.mono (by omega)))
    have hz11 := hb11.size
    clear hown11 hb11
    go_wp2_with fail
    refine (heldIntS_c bs.length v1 _ (.of_own (by rw [upFrom_len]; exact HG11.out)) (by omega)).mono ?_
    rintro e w12 ⟨rfl, rfl⟩
    have x0 := HX11.out.cell 0
    have x1 := HX11.out.cell 1
    have x2 := HX11.out.cell 2
    have x3 := HX11.out.cell 3
    have x4 := HX11.out.cell 4
    simp at x0 x1 x2 x3 x4
    go_wp2_with fail
    refine (toImage_c m vc vd vn _ (HC.out.on HB11.out) (HD.out.on HB11.out) (HN.out.on HB11.out) HS.out).mono ?_
    rintro e w13 ⟨dc, dd, dn, rfl, hown13, hb13⟩
    have HO13 := hid hown13
    have HG13 := hid (own_on HG11.out hb13)
    have HV13 := hid (own_on HV11.out hb13)
    have HB13 := hid (HB11.out.trans (hb13.mono HB11.out.size))
    clear hown13 hb13 x0 x1 x2 x3 x4
    go_wp2_with fail
    refine (follow_c m _ _ _ _ HO13.out.cells HS.out (own_cap3 HO13.out.c)).mono ?_
    rintro e w14 ⟨v2, rfl, hown14, hb14⟩
    rw [HBs.out] at hown14
    have HH14 := hid hown14
    have HG14 := hid (own_on HG13.out hb14)
    have HV14 := hid (own_on HV13.out hb14)
    have HB14 := hid (HB13.out.trans (hb14.mono HB13.out.size))
    clear hown14 hb14
    go_wp2_with fail
    refine (eqIntS_b bs v2 v0 _ (.of_own HH14.out) (.of_own HV14.out) (by omega)).mono ?_
    rintro e w15 ⟨rfl, hb15⟩
    have HG15 := hid (own_on HG14.out hb15)
    have HB15 := hid (HB14.out.trans (hb15.mono HB14.out.size))
    clear hb15
    go_wp2_with fail
    refine (heldIntS_c bs.length v1 _ (.of_own (by rw [upFrom_len]; exact HG15.out)) (by omega)).mono ?_
    rintro e w16 ⟨rfl, rfl⟩
    go_wp2_with fail
    go_ret
    exact ⟨rfl, HB15.out⟩
end Go.Proofs.YtihhpgklpichgaaGreat.Wk
