/- The exact law of ImageSame: the walk. -/
import Derived.Test.YtihhpgklpichgabL3a
import Derived.Test.YtihhpgklpichgabIm7
set_option linter.unusedSimpArgs false
set_option linter.unusedVariables false
namespace Go.Proofs.Ytihhpgklpichgab.Im
open Go.RowKit Pl Ft Mm In C2

theorem toImage_v (m : Img) (vc vd vn : Value) (w : World) (hc : Rd w vc m.code) (hd : Rd w vd m.data) (hn : NRd w vn m.names) (hs : Sm m) :
    Calls Try.prog 30 #[.agg #[vc, .int .i64 m.entry, .int .i64 m.room, vd, vn]] w (ImgPost m w) := toImage_c m vc vd vn w hc hd hn hs
theorem two_images (a b : Img) (ac ad an bc bd bn : Value) (w : World) {A B : Nat} (ha : IOwn w A ac ad an a) (hb : IOwn w B bc bd bn b) (hsa : Sm a) (hsb : Sm b) :
    Calls Try.prog 33 #[imgVal ac ad an a, imgVal bc bd bn b] w fun e w' => e = .returned (.bool (imgSame a b)) ∧ Below w.heap.size w w' := sImageSame_c a b ac ad an bc bd bn w ha.cells hb.cells hsa hsb
set_option maxRecDepth 100000 in
set_option maxHeartbeats 4000000 in
theorem exactImageSame_w (a b : Img) (ac ad an bc bd bn : Value) (w : World) (hac : Rd w ac a.code) (had : Rd w ad a.data) (han : NRd w an a.names) (hwa : Wide a) (hbc : Rd w bc b.code) (hbd : Rd w bd b.data) (hbn : NRd w bn b.names) (hwb : Wide b) :
    Calls Try.prog 8 #[imgVal ac ad an a, imgVal bc bd bn b] w fun e w' => e = .returned (.bool true) ∧ Below w.heap.size w w' := by
  have HAc := hid hac
  have HAd := hid had
  have HAn := hid han
  have HWa := hid hwa
  have HBc := hid hbc
  have HBd := hid hbd
  have HBn := hid hbn
  have HWb := hid hwb
  clear hac had han hwa hbc hbd hbn hwb
  have ha1 := (Below.refl w.heap.size w).alloc (Nat.le_refl _) (.cells #[ac, .int .i64 a.entry, .int .i64 a.room, ad, an] 43)
  have HB0 := hid (ha1.alloc ha1.size (.cells #[bc, .int .i64 b.entry, .int .i64 b.room, bd, bn] 43))
  have HX0 := hid ((Row.new w 43 #[ac, .int .i64 a.entry, .int .i64 a.room, ad, an]).alloc (.cells #[bc, .int .i64 b.entry, .int .i64 b.room, bd, bn] 43))
  have HY0 := hid (Row.new (w.alloc (.cells #[ac, .int .i64 a.entry, .int .i64 a.room, ad, an] 43)) 43 #[bc, .int .i64 b.entry, .int .i64 b.room, bd, bn])
  simp only [World.size_alloc] at HY0
  clear ha1
  have hVa : imgVal ac ad an a = .agg #[ac, .int .i64 a.entry, .int .i64 a.room, ad, an] := rfl
  have hVb : imgVal bc bd bn b = .agg #[bc, .int .i64 b.entry, .int .i64 b.room, bd, bn] := rfl
  rw [hVa, hVb]
  clear hVa hVb
  go_enter Try.func8, Try.ntmps8
  go_wp2_with fail
  refine (szImage_c a ac ad an _ _ (HAc.out.on HB0.out) (HAd.out.on HB0.out) (HAn.out.on HB0.out) HWa.out (by omega) (by omega)).mono ?_
  rintro e w1 ⟨x, rfl, hx1, hx0, hxp, hb1⟩
  have HB1 := hid (HB0.out.trans (hb1.mono HB0.out.size))
  have HX1 := hid (HX0.out.on hb1)
  have HY1 := hid (HY0.out.on hb1)
  have HP := hid hxp
  have hz1 := hb1.size
  simp only [World.size_alloc] at hz1
  clear hb1 hxp
  by_cases hx : 0 ≤ x
  case neg =>
    go_wp2_with fail
    go_ret
    exact ⟨rfl, HB1.out⟩
  have HSa := hid (HP.out hx)
  have y0 := HY1.out.cell 0
  have y1 := HY1.out.cell 1
  have y2 := HY1.out.cell 2
  have y3 := HY1.out.cell 3
  have y4 := HY1.out.cell 4
  simp at y0 y1 y2 y3 y4
  go_wp2_with fail
  refine (szImage_c b bc bd bn _ _ (HBc.out.on HB1.out) (HBd.out.on HB1.out) (HBn.out.on HB1.out) HWb.out hx (by omega)).mono ?_
  rintro e w2 ⟨z, rfl, hzz1, hzz0, hzp, hb2⟩
  have HB2 := hid (HB1.out.trans (hb2.mono HB1.out.size))
  have HX2 := hid (HX1.out.on hb2)
  have HY2 := hid (HY1.out.on hb2)
  have HP2 := hid hzp
  have hz2 := hb2.size
  clear hb2 hzp y0 y1 y2 y3 y4
  by_cases hz : 0 ≤ z
  case neg =>
    go_wp2_with fail
    go_ret
    exact ⟨rfl, HB2.out⟩
  have HSb := hid (HP2.out hz)
  have x0 := HX2.out.cell 0
  have x1 := HX2.out.cell 1
  have x2 := HX2.out.cell 2
  have x3 := HX2.out.cell 3
  have x4 := HX2.out.cell 4
  simp at x0 x1 x2 x3 x4
  have y0 := HY2.out.cell 0
  have y1 := HY2.out.cell 1
  have y2 := HY2.out.cell 2
  have y3 := HY2.out.cell 3
  have y4 := HY2.out.cell 4
  simp at y0 y1 y2 y3 y4
  have hw0 : w.heap.size < w2.heap.size := by omega
  have hw1 : w.heap.size + 1 < w2.heap.size := by omega
  have HAc2 := hid (HAc.out.on HB2.out)
  have HAd2 := hid (HAd.out.on HB2.out)
  have HAn2 := hid (HAn.out.on HB2.out)
  have HBc2 := hid (HBc.out.on HB2.out)
  have HBd2 := hid (HBd.out.on HB2.out)
  have HBn2 := hid (HBn.out.on HB2.out)
  have HDr := hid (Below.refl w2.heap.size w2).drew
  go_upto_region 8 with fail
  go_cut [6] (fun s6 wx => s6 = .bool (imgSame a b) ∧ Below w2.heap.size w2 wx)
  case first =>
    go_region_with (first
      | (go_at_call 30; (with_reducible refine (toImage_v a ac ad an _ (HAc2.out.on HDr.out) (HAd2.out.on HDr.out) (HAn2.out.on HDr.out) HSa.out).mono ?_); rintro e wa ⟨a1, a2, a3, rfl, howna, hba⟩; have HOa := hid howna; have HBa := hid (HDr.out.trans (hba.mono (Nat.le_refl _))); have HYa := hid (HY2.out.drew.on hba); have p0 := HYa.out.cell 0; have p1 := HYa.out.cell 1; have p2 := HYa.out.cell 2; have p3 := HYa.out.cell 3; have p4 := HYa.out.cell 4; simp at p0 p1 p2 p3 p4; clear howna hba)
      | (go_at_call 30; (with_reducible refine (toImage_v b bc bd bn _ (HBc2.out.on HDr.out) (HBd2.out.on HDr.out) (HBn2.out.on HDr.out) HSb.out).mono ?_); rintro e wb ⟨b1, b2, b3, rfl, hownb, hbb⟩; have HOb := hid hownb; have HBb := hid (HDr.out.trans (hbb.mono (Nat.le_refl _))); have HXb := hid (HX2.out.drew.on hbb); have q0 := HXb.out.cell 0; have q1 := HXb.out.cell 1; have q2 := HXb.out.cell 2; have q3 := HXb.out.cell 3; have q4 := HXb.out.cell 4; simp at q0 q1 q2 q3 q4; clear hownb hbb)
      | (go_at_call 30; (with_reducible refine (toImage_v b bc bd bn _ (HBc2.out.on HBa.out) (HBd2.out.on HBa.out) (HBn2.out.on HBa.out) HSb.out).mono ?_); rintro e wb ⟨b1, b2, b3, rfl, hownb, hbb⟩; have HOb := hid hownb; have HOa2 := hid (HOa.out.on hbb); have HBb := hid (HBa.out.trans (hbb.mono HBa.out.size)); clear hownb hbb)
      | (go_at_call 30; (with_reducible refine (toImage_v a ac ad an _ (HAc2.out.on HBb.out) (HAd2.out.on HBb.out) (HAn2.out.on HBb.out) HSa.out).mono ?_); rintro e wa ⟨a1, a2, a3, rfl, howna, hba⟩; have HOa := hid howna; have HOb2 := hid (HOb.out.on hba); have HBa := hid (HBb.out.trans (hba.mono HBb.out.size)); clear howna hba)
      | (go_at_call 33; (with_reducible refine (two_images a b _ _ _ _ _ _ _ HOa2.out HOb.out HSa.out HSb.out).mono ?_); rintro e w3 ⟨rfl, hb3⟩; have HB3 := hid (HBb.out.trans (hb3.mono HBb.out.size)); clear hb3)
      | (go_at_call 33; (with_reducible refine (two_images a b _ _ _ _ _ _ _ HOa.out HOb2.out HSa.out HSb.out).mono ?_); rintro e w3 ⟨rfl, hb3⟩; have HB3 := hid (HBa.out.trans (hb3.mono HBa.out.size)); clear hb3))
    all_goals
      go_wp2_with fail
      go_meet
      exact ⟨rfl, HB3.out⟩
  case rest =>
    obtain ⟨rfl, hbc⟩ := hcut
    have HBw := hid (HB2.out.trans (hbc.mono HB2.out.size))
    have HX3 := hid (HX2.out.on hbc)
    have HY3 := hid (HY2.out.on hbc)
    have hz3 := hbc.size
    clear hbc x0 x1 x2 x3 x4 y0 y1 y2 y3 y4
    have x0 := HX3.out.cell 0
    have x1 := HX3.out.cell 1
    have x2 := HX3.out.cell 2
    have x3 := HX3.out.cell 3
    have x4 := HX3.out.cell 4
    simp at x0 x1 x2 x3 x4
    go_wp2_with fail
    refine (toImage_v a ac ad an _ (HAc.out.on HBw.out) (HAd.out.on HBw.out) (HAn.out.on HBw.out) HSa.out).mono ?_
    rintro e w4 ⟨a1, a2, a3, rfl, hown4, hb4⟩
    have HO4 := hid hown4
    have HB4 := hid (HBw.out.trans (hb4.mono HBw.out.size))
    have HX4 := hid (HX3.out.on hb4)
    have HY4 := hid (HY3.out.on hb4)
    have hz4 := hb4.size
    clear hown4 hb4 x0 x1 x2 x3 x4
    obtain ⟨s1, c1, rfl⟩ := own_slice HO4.out.c
    obtain ⟨s2, c2, rfl⟩ := own_slice HO4.out.d
    obtain ⟨s3, c3, rfl⟩ := own_slice HO4.out.n
    unfold imgVal
    simp only
    have hw14 : w.heap.size + 1 < w4.heap.size := by omega
    have hw04 : w.heap.size < w4.heap.size := by omega
    have y0 := HY4.out.cell 0
    have y1 := HY4.out.cell 1
    have y2 := HY4.out.cell 2
    have y3 := HY4.out.cell 3
    have y4 := HY4.out.cell 4
    simp at y0 y1 y2 y3 y4
    go_wp2_with fail
    have HU4 := hid (Row.new w4 48 #[.slice s1 a.code.length c1, .int .i64 a.entry, .int .i64 a.room, .slice s2 a.data.length c2, .slice s3 a.names.length c3])
    have HB5 := hid (HB4.out.alloc HB4.out.size (.cells #[.slice s1 a.code.length c1, .int .i64 a.entry, .int .i64 a.room, .slice s2 a.data.length c2, .slice s3 a.names.length c3] 48))
    have HX5 := hid (HX4.out.alloc (.cells #[.slice s1 a.code.length c1, .int .i64 a.entry, .int .i64 a.room, .slice s2 a.data.length c2, .slice s3 a.names.length c3] 48))
    have HY5 := hid (HY4.out.alloc (.cells #[.slice s1 a.code.length c1, .int .i64 a.entry, .int .i64 a.room, .slice s2 a.data.length c2, .slice s3 a.names.length c3] 48))
    have HO5 := hid (HO4.out.on ((Below.refl _ _).alloc (Nat.le_refl _) (.cells #[.slice s1 a.code.length c1, .int .i64 a.entry, .int .i64 a.room, .slice s2 a.data.length c2, .slice s3 a.names.length c3] 48)))
    refine (toImage_v b bc bd bn _ (HBc.out.on HB5.out) (HBd.out.on HB5.out) (HBn.out.on HB5.out) HSb.out).mono ?_
    rintro e w6 ⟨b1, b2, b3, rfl, hown6, hb6⟩
    have HV6 := hid hown6
    have HO6 := hid (HO5.out.on hb6)
    have HB6 := hid (HB5.out.trans (hb6.mono HB5.out.size))
    have HX6 := hid (HX5.out.on hb6)
    have HY6 := hid (HY5.out.on hb6)
    have HU6 := hid (HU4.out.on hb6)
    have hz6 := hb6.size
    simp only [World.size_alloc] at hz6
    clear hown6 hb6 y0 y1 y2 y3 y4
    obtain ⟨t1, d1, rfl⟩ := own_slice HV6.out.c
    obtain ⟨t2, d2, rfl⟩ := own_slice HV6.out.d
    obtain ⟨t3, d3, rfl⟩ := own_slice HV6.out.n
    unfold imgVal
    simp only
    have u0 := HU6.out.cell 0
    have u1 := HU6.out.cell 1
    have u2 := HU6.out.cell 2
    have u3 := HU6.out.cell 3
    have u4 := HU6.out.cell 4
    simp at u0 u1 u2 u3 u4
    have hw46 : w4.heap.size < w6.heap.size := by omega
    go_wp2_with fail
    have HZ6 := hid (Row.new w6 48 #[.slice t1 b.code.length d1, .int .i64 b.entry, .int .i64 b.room, .slice t2 b.data.length d2, .slice t3 b.names.length d3])
    have HB7 := hid (HB6.out.alloc HB6.out.size (.cells #[.slice t1 b.code.length d1, .int .i64 b.entry, .int .i64 b.room, .slice t2 b.data.length d2, .slice t3 b.names.length d3] 48))
    have HX7 := hid (HX6.out.alloc (.cells #[.slice t1 b.code.length d1, .int .i64 b.entry, .int .i64 b.room, .slice t2 b.data.length d2, .slice t3 b.names.length d3] 48))
    have HY7 := hid (HY6.out.alloc (.cells #[.slice t1 b.code.length d1, .int .i64 b.entry, .int .i64 b.room, .slice t2 b.data.length d2, .slice t3 b.names.length d3] 48))
    have HU7 := hid (HU6.out.alloc (.cells #[.slice t1 b.code.length d1, .int .i64 b.entry, .int .i64 b.room, .slice t2 b.data.length d2, .slice t3 b.names.length d3] 48))
    have HO7 := hid (HO6.out.on ((Below.refl _ _).alloc (Nat.le_refl _) (.cells #[.slice t1 b.code.length d1, .int .i64 b.entry, .int .i64 b.room, .slice t2 b.data.length d2, .slice t3 b.names.length d3] 48)))
    have HV7 := hid (HV6.out.on ((Below.refl _ _).alloc (Nat.le_refl _) (.cells #[.slice t1 b.code.length d1, .int .i64 b.entry, .int .i64 b.room, .slice t2 b.data.length d2, .slice t3 b.names.length d3] 48)))
    refine (imageSame_c a b _ _ _ _ _ _ _ HO7.out.cells HV7.out.cells HSa.out HSb.out).mono ?_
    rintro e w8 ⟨rfl, hb8⟩
    have HB8 := hid (HB7.out.trans (hb8.mono HB7.out.size))
    have HX8 := hid (HX7.out.on hb8)
    have HY8 := hid (HY7.out.on hb8)
    have HU8 := hid (HU7.out.on hb8)
    have HZ8 := hid (HZ6.out.on hb8)
    have HO8 := hid (HO7.out.on hb8)
    have HV8 := hid (HV7.out.on hb8)
    have hz8 := hb8.size
    simp only [World.size_alloc] at hz8
    clear hb8 u0 u1 u2 u3 u4
    have HAc8 := hid (HAc.out.on HB8.out)
    have HAd8 := hid (HAd.out.on HB8.out)
    have HAn8 := hid (HAn.out.on HB8.out)
    have HBc8 := hid (HBc.out.on HB8.out)
    have HBd8 := hid (HBd.out.on HB8.out)
    have HBn8 := hid (HBn.out.on HB8.out)
    have HDr8 := hid (Below.refl w8.heap.size w8).drew
    have x0 := HX8.out.cell 0
    have x1 := HX8.out.cell 1
    have x2 := HX8.out.cell 2
    have x3 := HX8.out.cell 3
    have x4 := HX8.out.cell 4
    simp at x0 x1 x2 x3 x4
    have u0 := HU8.out.cell 0
    have u1 := HU8.out.cell 1
    have u2 := HU8.out.cell 2
    have u3 := HU8.out.cell 3
    have u4 := HU8.out.cell 4
    simp at u0 u1 u2 u3 u4
    have h48 : w4.heap.size < w8.heap.size := by omega
    have h68 : w6.heap.size < w8.heap.size := by omega
    have h08 : w.heap.size < w8.heap.size := by omega
    have h18 : w.heap.size + 1 < w8.heap.size := by omega
    cases hok : imgSame a b
    all_goals
      clear hok
      go_upto_region 14 with fail
      go_cut [39] (fun s39 wx => s39 = .bool false ∧ Below w8.heap.size w8 wx)
      case first =>
        go_region_with (first
          | (go_at_call 30; (with_reducible refine (toImage_v a ac ad an _ (HAc8.out.on HDr8.out) (HAd8.out.on HDr8.out) (HAn8.out.on HDr8.out) HSa.out).mono ?_); rintro e w9 ⟨t1, t2, t3, rfl, hown9, hb9⟩; have HO9 := hid hown9; have HO9' := hid ((HO8.out.on HDr8.out).on hb9); have HB9 := hid (HDr8.out.trans (hb9.mono (Nat.le_refl _))); have HU9 := hid (HU8.out.drew.on hb9); have p0 := HU9.out.cell 0; have p1 := HU9.out.cell 1; have p2 := HU9.out.cell 2; have p3 := HU9.out.cell 3; have p4 := HU9.out.cell 4; simp at p0 p1 p2 p3 p4; clear hown9 hb9)
          | (go_at_call 32; refine (eqImage_own a _ _ _ _ _ _ _ HO9'.out HO9.out HSa.out).mono ?_; rintro e w10 ⟨rfl, hb10⟩; have HB10 := hid (HB9.out.trans (hb10.mono HB9.out.size)); clear hb10))
        all_goals
          go_wp2_with fail
          go_meet
          exact ⟨rfl, HB10.out⟩
      case rest =>
        obtain ⟨rfl, hbc9⟩ := hcut
        have HBw9 := hid (HB8.out.trans (hbc9.mono HB8.out.size))
        have HY9 := hid (HY8.out.on hbc9)
        have HZ9 := hid (HZ8.out.on hbc9)
        have HV9 := hid (HV8.out.on hbc9)
        have HBc9 := hid (HBc8.out.on hbc9)
        have HBd9 := hid (HBd8.out.on hbc9)
        have HBn9 := hid (HBn8.out.on hbc9)
        have hz9 := hbc9.size
        clear hbc9 x0 x1 x2 x3 x4 u0 u1 u2 u3 u4
        obtain ⟨w9, rfl⟩ : ∃ x : World, x = wc := ⟨_, rfl⟩
        have HDr9 := hid (Below.refl w9.heap.size w9).drew
        have y0 := HY9.out.cell 0
        have y1 := HY9.out.cell 1
        have y2 := HY9.out.cell 2
        have y3 := HY9.out.cell 3
        have y4 := HY9.out.cell 4
        simp at y0 y1 y2 y3 y4
        have v0 := HZ9.out.cell 0
        have v1 := HZ9.out.cell 1
        have v2 := HZ9.out.cell 2
        have v3 := HZ9.out.cell 3
        have v4 := HZ9.out.cell 4
        simp at v0 v1 v2 v3 v4
        have h69 : w6.heap.size < w9.heap.size := by omega
        have h19 : w.heap.size + 1 < w9.heap.size := by omega
        go_upto_region 16 with fail
        go_cut [44] (fun s44 wx => s44 = .bool false ∧ Below w9.heap.size w9 wx)
        case first =>
          go_region_with (first
            | (go_at_call 30; (with_reducible refine (toImage_v b bc bd bn _ (HBc9.out.on HDr9.out) (HBd9.out.on HDr9.out) (HBn9.out.on HDr9.out) HSb.out).mono ?_); rintro e w11 ⟨t1, t2, t3, rfl, hown11, hb11⟩; have HO11 := hid hown11; have HO11' := hid ((HV9.out.on HDr9.out).on hb11); have HB11 := hid (HDr9.out.trans (hb11.mono (Nat.le_refl _))); have HZ11 := hid (HZ9.out.drew.on hb11); have p0 := HZ11.out.cell 0; have p1 := HZ11.out.cell 1; have p2 := HZ11.out.cell 2; have p3 := HZ11.out.cell 3; have p4 := HZ11.out.cell 4; simp at p0 p1 p2 p3 p4; clear hown11 hb11)
            | (go_at_call 32; refine (eqImage_own b _ _ _ _ _ _ _ HO11'.out HO11.out HSb.out).mono ?_; rintro e w12 ⟨rfl, hb12⟩; have HB12 := hid (HB11.out.trans (hb12.mono HB11.out.size)); clear hb12))
          all_goals
            go_wp2_with fail
            go_meet
            exact ⟨rfl, HB12.out⟩
        case rest =>
          obtain ⟨rfl, hbc12⟩ := hcut
          have HBw12 := hid (HBw9.out.trans (hbc12.mono HBw9.out.size))
          clear hbc12 y0 y1 y2 y3 y4 v0 v1 v2 v3 v4
          go_wp2_with fail
          go_ret
          exact ⟨rfl, HBw12.out⟩
end Go.Proofs.Ytihhpgklpichgab.Im
