/- The exact law of SweepBytes: the walk. -/
import Derived.Test.YtihhpgklpichgabSb3
import Derived.Test.YtihhpgklpichgabSwH4
set_option linter.unusedSimpArgs false
set_option linter.unusedVariables false
namespace Go.Proofs.Ytihhpgklpichgab.Sw
open Go.RowKit Pl Ft Mm In C2 Im Wk

set_option maxRecDepth 100000 in
set_option maxHeartbeats 2000000 in
theorem exactSweepBytes_w (l : List ILine) (v : Value) (w : World) (hr : CRd w v l.length (lnCells l)) (hlen : l.length ≤ 9223372036854775807) :
    Calls Try.prog 12 #[v] w fun e w' => e = .returned (.bool true) ∧ Below w.heap.size w w' := by
  have HRd := hid hr
  obtain ⟨a, cap, rfl⟩ := hr.slice
  clear hr
  have hbl := sweepBytes_len l
  obtain ⟨o, ho⟩ : ∃ o, sweepBytes l = o := ⟨_, rfl⟩
  rw [ho] at hbl
  have HOp := hid ho
  clear ho
  obtain ⟨bo, hbo⟩ : ∃ b, o.isSome = b := ⟨_, rfl⟩
  have HBo := hid hbo
  obtain ⟨bs, hbs⟩ : ∃ bs, o.getD [] = bs := ⟨_, rfl⟩
  rw [hbs] at hbl
  have HBs := hid hbs
  clear hbo hbs
  go_enter Try.func12, Try.ntmps12
  go_wp2_with fail
  refine (szLineS_c a l.length cap _ _ (by omega) (by omega) hlen).mono ?_
  rintro e w1 ⟨y, rfl, hy1, hy0, hyp, hb1⟩
  have HB1 := hid hb1
  have HP := hid hyp
  clear hb1 hyp
  by_cases hx : 0 ≤ y
  case neg =>
    go_wp2_with fail
    go_ret
    exact ⟨rfl, HB1.out⟩
  have hsm : l.length ≤ 1048576 := by have := HP.out hx; omega
  go_wp2_with fail
  refine (toLineS_c l _ _ (HRd.out.on HB1.out) hsm).mono ?_
  rintro e w2 ⟨v2, rfl, hown2, hb2⟩
  have HX2 := hid hown2
  have HB2 := hid (HB1.out.trans (hb2.mono HB1.out.size))
  obtain ⟨s2, c2, rfl⟩ := own_slice hown2
  clear hown2 hb2
  go_wp2_with fail
  refine (sSweepBytes_c l _ _ (.of_own HX2.out) hsm).mono ?_
  rw [HOp.out]
  rintro e w3 ⟨v0, rfl, hown3, hb3⟩
  rw [HBs.out] at hown3
  rw [HBo.out]
  have HV3 := hid hown3
  have HVlt := hid (fun g hg => (hown3.lt g hg).2)
  have HB3 := hid (HB2.out.trans (hb3.mono HB2.out.size))
  clear hown3 hb3
  go_wp2_with fail
  refine (toLineS_c l _ _ (HRd.out.on HB3.out) hsm).mono ?_
  rintro e w4 ⟨v4, rfl, hown4, hb4⟩
  have HX4 := hid hown4
  have HXlt := hid (fun g hg => hown4.lt g hg)
  have HV4 := hid (own_on HV3.out hb4)
  have HB4 := hid (HB3.out.trans (hb4.mono HB3.out.size))
  obtain ⟨s4, c4, rfl⟩ := own_slice hown4
  have hz4 := hb4.size
  clear hown4 hb4
  go_wp2_with fail
  refine (sweepBytes_c l _ _ (.of_own HX4.out) hsm).mono ?_
  rw [HOp.out]
  rintro e w5 ⟨v1, rfl, hown5, hb5⟩
  rw [HBs.out] at hown5
  rw [HBo.out]
  have HG5 := hid hown5
  have HGlt := hid (fun g hg => (hown5.lt g hg).1)
  have HX5 := hid (own_on HX4.out hb5)
  have HV5 := hid (own_on HV4.out hb5)
  have HB5 := hid (HB4.out.trans (hb5.mono HB4.out.size))
  have hz5 := hb5.size
  clear hown5 hb5
  go_wp2_with fail
  refine (eqIntS_b bs v1 v0 _ (.of_own HG5.out) (.of_own HV5.out) (by omega)).mono ?_
  rintro e w6 ⟨rfl, hb6⟩
  have HG6 := hid (own_on HG5.out hb6)
  have HX6 := hid (own_on HX5.out hb6)
  have HV6 := hid (own_on HV5.out hb6)
  have HB6 := hid (HB5.out.trans (hb6.mono HB5.out.size))
  clear hb6
  go_wp2_with fail
  refine (toLineS_c l _ _ (HRd.out.on HB6.out) hsm).mono ?_
  rintro e w7 ⟨v7, rfl, hown7, hb7⟩
  have HT7 := hid hown7
  have HG7 := hid (own_on HG6.out hb7)
  have HX7 := hid (own_on HX6.out hb7)
  have HV7 := hid (own_on HV6.out hb7)
  have HB7 := hid (HB6.out.trans (hb7.mono HB6.out.size))
  obtain ⟨s7, c7, rfl⟩ := own_slice hown7
  clear hown7 hb7
  go_wp2_with fail
  refine (eqLineS_c l _ _ _ (.of_own HX7.out) (.of_own HT7.out) hsm).mono ?_
  rintro e w8 ⟨rfl, hb8⟩
  have HG8 := hid (own_on HG7.out hb8)
  have HX8 := hid (own_on HX7.out hb8)
  have HV8 := hid (own_on HV7.out hb8)
  have HB8 := hid (HB7.out.trans (hb8.mono HB7.out.size))
  clear hb8
  go_wp2_with fail
  refine (markLineS_c w3.heap.size 1 l _ _ HX8.out hsm (by omega)).mono ?_
  rintro e w9 ⟨rfl, _, ho9⟩
  have hxb : ∀ g, (Value.slice s4 l.length c4).ownBlock = some g → w3.heap.size ≤ g ∧ g < w4.heap.size := fun g hg => HXlt.out g hg
  have HG9 := hid (own_only HG8.out (fun g hg h => by have := hxb _ h; have := HGlt.out g hg; omega) ho9)
  have HV9 := hid (own_only HV8.out (fun g hg h => by have := hxb _ h; have := HVlt.out g hg; omega) ho9)
  have HB9 := hid (HB8.out.trans (ho9.below HB8.out.size (fun k h => by have := hxb _ h; have := HB3.out.size; omega)))
  obtain ⟨q, hq⟩ : ∃ q, 1 + 7 * l.length = q := ⟨_, rfl⟩
  rw [hq]
  clear ho9 hxb hq
  go_wp2_with fail
  refine (eqIntS_b bs v1 v0 _ (.of_own HG9.out) (.of_own HV9.out) (by omega)).mono ?_
  rintro e w10 ⟨rfl, hb10⟩
  have HG10 := hid (own_on HG9.out hb10)
  have HV10 := hid (own_on HV9.out hb10)
  have HB10 := hid (HB9.out.trans (hb10.mono HB9.out.size))
  have hz10 := hb10.size
  clear hb10
  go_wp2_with fail
  refine (markIntS_c _ bs v1 _ HG10.out (by omega)).mono ?_
  rintro e w11 ⟨rfl, hown11, hb11⟩
  have HG11 := hid hown11
  have HV11 := hid (own_below HV10.out (fun g hg => by have := HVlt.out g hg; omega) hb11)
  have HB11 := hid (HB10.out.trans (hb11.mono HB4.out.size))
  clear hown11 hb11
  go_wp2_with fail
  refine (heldIntS_c bs.length v1 _ (.of_own (by rw [upFrom_len]; exact HG11.out)) (by omega)).mono ?_
  rintro e w12 ⟨rfl, rfl⟩
  go_wp2_with fail
  refine (toLineS_c l _ _ (HRd.out.on HB11.out) hsm).mono ?_
  rintro e w13 ⟨v13, rfl, hown13, hb13⟩
  have HY13 := hid hown13
  have HG13 := hid (own_on HG11.out hb13)
  have HV13 := hid (own_on HV11.out hb13)
  have HB13 := hid (HB11.out.trans (hb13.mono HB11.out.size))
  obtain ⟨s13, c13, rfl⟩ := own_slice hown13
  clear hown13 hb13
  go_wp2_with fail
  refine (sweepBytes_c l _ _ (.of_own HY13.out) hsm).mono ?_
  rw [HOp.out]
  rintro e w14 ⟨v2, rfl, hown14, hb14⟩
  rw [HBs.out] at hown14
  rw [HBo.out]
  have HH14 := hid hown14
  have HG14 := hid (own_on HG13.out hb14)
  have HV14 := hid (own_on HV13.out hb14)
  have HB14 := hid (HB13.out.trans (hb14.mono HB13.out.size))
  clear hown14 hb14
  go_wp2_with fail
  refine (eqIntS_b bs v2 v0 _ (.of_own HH14.out) (.of_own HV14.out) (by omega)).mono ?_
  rintro e w15 ⟨rfl, hb15⟩
  have HG15 := hid (own_on HG14.out hb15)
  have HB15 := hid (HB14.out.trans (hb15.mono HB14.out.size))
  clear hb15
  go_wp2_with fail
  refine (heldIntS_c bs.length v1 _ (.of_own (by rw [upFrom_len]; exact HG15.out)) (by omega)).mono ?_
  rintro e w16 ⟨rfl, rfl⟩
  go_wp2_with fail
  go_ret
  exact ⟨rfl, HB15.out⟩
end Go.Proofs.Ytihhpgklpichgab.Sw
