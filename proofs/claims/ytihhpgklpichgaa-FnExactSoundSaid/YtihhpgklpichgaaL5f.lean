/- The exact law of Sound: the walk. -/
import Derived.Test.YtihhpgklpichgaaWs5
import Derived.Test.YtihhpgklpichgaaL3a
import Derived.Test.YtihhpgklpichgaaSwCap
set_option linter.unusedSimpArgs false
set_option linter.unusedVariables false
namespace Go.Proofs.Ytihhpgklpichgaa.Wk
open Go.RowKit Pl Ft Mm In C2 Im Sw

set_option maxRecDepth 100000 in
set_option maxHeartbeats 2000000 in
theorem exactSound_w (m : Img) (vc vd vn : Value) (w : World) (hc : Rd w vc m.code) (hd : Rd w vd m.data) (hn : NRd w vn m.names) (hw : Wide m) :
    Calls Try.prog 3 #[imgVal vc vd vn m] w fun e w' => e = .returned (.bool true) ∧ Below w.heap.size w w' := by
  have HC := hid hc
  have HD := hid hd
  have HN := hid hn
  have HW := hid hw
  clear hc hd hn hw
  have hV : imgVal vc vd vn m = .agg #[vc, .int .i64 m.entry, .int .i64 m.room, vd, vn] := rfl
  rw [hV]
  clear hV
  have HX0 := hid (Row.new w 25 #[vc, .int .i64 m.entry, .int .i64 m.room, vd, vn])
  have HB0 := hid ((Below.refl w.heap.size w).alloc (Nat.le_refl _) (.cells #[vc, .int .i64 m.entry, .int .i64 m.room, vd, vn] 25))
  go_enter Try.func3, Try.ntmps3
  go_wp2_with fail
  refine (szImage_c m vc vd vn _ _ (HC.out.on HB0.out) (HD.out.on HB0.out) (HN.out.on HB0.out) HW.out (by omega) (by omega)).mono ?_
  rintro e w1 ⟨x, rfl, hx1, hx0, hxp, hb1⟩
  have HB1 := hid (HB0.out.trans (hb1.mono HB0.out.size))
  have HX1 := hid (HX0.out.on hb1)
  have HP := hid hxp
  have hz1 := hb1.size
  simp only [World.size_alloc] at hz1
  clear hb1 hxp
  by_cases hx : 0 ≤ x
  case neg =>
    go_wp2_with fail
    go_ret
    exact ⟨rfl, HB1.out⟩
  have HS := hid (HP.out hx)
  have x0 := HX1.out.cell 0
  have x1 := HX1.out.cell 1
  have x2 := HX1.out.cell 2
  have x3 := HX1.out.cell 3
  have x4 := HX1.out.cell 4
  simp at x0 x1 x2 x3 x4
  go_wp2_with fail
  refine (toImage_c m vc vd vn _ (HC.out.on HB1.out) (HD.out.on HB1.out) (HN.out.on HB1.out) HS.out).mono ?_
  rintro e w2 ⟨ac, ad, an, rfl, hown2, hb2⟩
  have HO2 := hid hown2
  have HB2 := hid (HB1.out.trans (hb2.mono HB1.out.size))
  have HX2 := hid (HX1.out.on hb2)
  have hz2 := hb2.size
  clear hown2 hb2 x0 x1 x2 x3 x4
  go_wp2_with fail
  refine (sSound_c m ac ad an _ HO2.out.cells HS.out).mono ?_
  rintro e w3 ⟨rfl, hb3⟩
  have HB3 := hid (HB2.out.trans (hb3.mono HB2.out.size))
  have HX3 := hid (HX2.out.on hb3)
  have hz3 := hb3.size
  clear hb3
  have x0 := HX3.out.cell 0
  have x1 := HX3.out.cell 1
  have x2 := HX3.out.cell 2
  have x3 := HX3.out.cell 3
  have x4 := HX3.out.cell 4
  simp at x0 x1 x2 x3 x4
  go_wp2_with fail
  refine (toImage_c m vc vd vn _ (HC.out.on HB3.out) (HD.out.on HB3.out) (HN.out.on HB3.out) HS.out).mono ?_
  rintro e w4 ⟨bc, bd, bn, rfl, hown4, hb4⟩
  have HO4 := hid hown4
  have HB4 := hid (HB3.out.trans (hb4.mono HB3.out.size))
  have HX4 := hid (HX3.out.on hb4)
  have hz4 := hb4.size
  clear hown4 hb4 x0 x1 x2 x3 x4
  obtain ⟨s1, c1, rfl⟩ := own_slice HO4.out.c
  obtain ⟨s2, c2, rfl⟩ := own_slice HO4.out.d
  obtain ⟨s3, c3, rfl⟩ := own_slice HO4.out.n
  unfold imgVal
  simp only
  go_wp2_with fail
  have HY4 := hid (Row.new w4 30 #[.slice s1 m.code.length c1, .int .i64 m.entry, .int .i64 m.room, .slice s2 m.data.length c2, .slice s3 m.names.length c3])
  have HB5 := hid (HB4.out.alloc HB4.out.size (.cells #[.slice s1 m.code.length c1, .int .i64 m.entry, .int .i64 m.room, .slice s2 m.data.length c2, .slice s3 m.names.length c3] 30))
  have HX5 := hid (HX4.out.alloc (.cells #[.slice s1 m.code.length c1, .int .i64 m.entry, .int .i64 m.room, .slice s2 m.data.length c2, .slice s3 m.names.length c3] 30))
  have HO5 := hid (HO4.out.on ((Below.refl _ _).alloc (Nat.le_refl _) (.cells #[.slice s1 m.code.length c1, .int .i64 m.entry, .int .i64 m.room, .slice s2 m.data.length c2, .slice s3 m.names.length c3] 30)))
  refine (sound_c m _ _ _ _ HO5.out.cells HS.out (own_cap3 HO4.out.c)).mono ?_
  rintro e w6 ⟨rfl, hb6⟩
  have HY6 := hid (HY4.out.on hb6)
  have HX6 := hid (HX5.out.on hb6)
  have HO6 := hid (HO5.out.on hb6)
  have HB6 := hid (HB5.out.trans (hb6.mono HB5.out.size))
  have hz6 := hb6.size
  simp only [World.size_alloc] at hz6
  clear hb6
  have x0 := HX6.out.cell 0
  have x1 := HX6.out.cell 1
  have x2 := HX6.out.cell 2
  have x3 := HX6.out.cell 3
  have x4 := HX6.out.cell 4
  have y0 := HY6.out.cell 0
  have y1 := HY6.out.cell 1
  have y2 := HY6.out.cell 2
  have y3 := HY6.out.cell 3
  have y4 := HY6.out.cell 4
  simp at x0 x1 x2 x3 x4 y0 y1 y2 y3 y4
  have hw4 : w4.heap.size < w6.heap.size := by omega
  have hw0 : w.heap.size < w6.heap.size := by omega
  cases hok : soundP m
  all_goals
    go_wp2_with fail
    go_region_with (first
      | (go_at_call 7; refine (toImage_c m vc vd vn _ (HC.out.on HB6.out.drew) (HD.out.on HB6.out.drew) (HN.out.on HB6.out.drew) HS.out).mono ?_; rintro e w7 ⟨tc, td, tn, rfl, hown7, hb7⟩; have HO7 := hid hown7; have HB7 := hid hb7; have HY7 := hid (HY6.out.drew.on hb7); have z0 := HY7.out.cell 0; have z1 := HY7.out.cell 1; have z2 := HY7.out.cell 2; have z3 := HY7.out.cell 3; have z4 := HY7.out.cell 4; simp at z0 z1 z2 z3 z4; clear hown7 hb7)
      | (go_at_call 9; refine (eqImage_own m _ _ _ _ _ _ _ (HO6.out.on ((Below.refl _ _).drew.trans HB7.out)) HO7.out HS.out).mono ?_; rintro e w8 ⟨rfl, hb8⟩))
    all_goals
      have HB8 := hid ((HB6.out.drew.trans (HB7.out.mono HB6.out.drew.size)).trans (hb8.mono (HB6.out.drew.trans (HB7.out.mono HB6.out.drew.size)).size))
      clear hb8 x0 x1 x2 x3 x4 y0 y1 y2 y3 y4
      go_wp2_with fail
      go_ret
      exact ⟨rfl, HB8.out⟩
end Go.Proofs.Ytihhpgklpichgaa.Wk
