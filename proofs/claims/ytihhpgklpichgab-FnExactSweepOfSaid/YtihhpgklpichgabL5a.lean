/- The exact law of SweepOf: the walk. -/
import Derived.Test.YtihhpgklpichgabSw3
import Derived.Test.YtihhpgklpichgabSwH
import Derived.Test.YtihhpgklpichgabHarn
import Derived.Test.YtihhpgklpichgabSwCap
import Derived.Test.YtihhpgklpichgabSw
set_option linter.unusedSimpArgs false
set_option linter.unusedVariables false
namespace Go.Proofs.Ytihhpgklpichgab.Sw
open Go.RowKit Pl Ft Mm In C2 Im

set_option maxHeartbeats 2000000 in
theorem exactSweepOf_w (xs : List Int) (v : Value) (w : World) (hr : Rd w v xs) (hlen : xs.length ≤ 9223372036854775807) :
    Calls Try.prog 11 #[v] w fun e w' => e = .returned (.bool true) ∧ Below w.heap.size w w' := by
  have HRd := hid hr
  obtain ⟨a, cap, rfl, _⟩ := hr
  by_cases hsm : xs.length ≤ 1048576
  case neg =>
    go_enter Try.func11, Try.ntmps11
    go_wp2_with fail
    go_ret
    exact ⟨rfl, Below.refl _ _⟩
  have hll := sweepOf_len xs
  obtain ⟨L, hL⟩ : ∃ L, sweepOf xs = L := ⟨_, rfl⟩
  rw [hL] at hll
  have HL := hid hL
  clear hL
  go_enter Try.func11, Try.ntmps11
  go_wp2_with fail
  refine (toIntS_c xs _ _ HRd.out hsm).mono ?_
  rintro e w1 ⟨v1, rfl, hown1, hb1⟩
  have HX1 := hid hown1
  have HB1 := hid hb1
  clear hown1 hb1
  go_wp2_with fail
  refine (sSweepOf_c xs v1 _ (.of_own HX1.out) (by omega)).mono ?_
  rintro e w2 ⟨u, rfl, hu, hb2⟩
  rw [HL.out] at hu
  have HU2 := hid hu
  have HUlt := hid (fun g hg => hu.lt g hg)
  have HB2 := hid (HB1.out.trans (hb2.mono HB1.out.size))
  clear hu hb2
  go_wp2_with fail
  refine (toIntS_c xs _ _ (HRd.out.on HB2.out) hsm).mono ?_
  rintro e w3 ⟨v3, rfl, hown3, hb3⟩
  have HX3 := hid hown3
  have HXlt := hid (fun g hg => hown3.lt g hg)
  have HCap := hid (own_cap3 hown3)
  have HU3 := hid (own_on HU2.out hb3)
  have HB3 := hid (HB2.out.trans (hb3.mono HB2.out.size))
  have hz3 := hb3.size
  clear hown3 hb3
  go_wp2_with fail
  refine (sweepOf_c xs v3 _ (.of_own HX3.out) HCap.out (by omega)).mono ?_
  rintro e w4 ⟨g, rfl, hg, hb4⟩
  rw [HL.out] at hg
  have HG4 := hid hg
  have HGlt := hid (fun k hk => hg.lt k hk)
  have HX4 := hid (own_on HX3.out hb4)
  have HU4 := hid (own_on HU3.out hb4)
  have HB4 := hid (HB3.out.trans (hb4.mono HB3.out.size))
  have hz4 := hb4.size
  clear hg hb4
  go_wp2_with fail
  refine (eqLineS_c L g u _ (.of_own HG4.out) (.of_own HU4.out) (by omega)).mono ?_
  rintro e w5 ⟨rfl, hb5⟩
  have HG5 := hid (own_on HG4.out hb5)
  have HX5 := hid (own_on HX4.out hb5)
  have HU5 := hid (own_on HU4.out hb5)
  have HB5 := hid (HB4.out.trans (hb5.mono HB4.out.size))
  have hz5 := hb5.size
  clear hb5
  go_wp2_with fail
  refine (toIntS_c xs _ _ (HRd.out.on HB5.out) hsm).mono ?_
  rintro e w6 ⟨v6, rfl, hown6, hb6⟩
  have HT6 := hid hown6
  have HG6 := hid (own_on HG5.out hb6)
  have HX6 := hid (own_on HX5.out hb6)
  have HU6 := hid (own_on HU5.out hb6)
  have HB6 := hid (HB5.out.trans (hb6.mono HB5.out.size))
  clear hown6 hb6
  go_wp2_with fail
  refine (eqIntS_b xs v3 v6 _ (.of_own HX6.out) (.of_own HT6.out) (by omega)).mono ?_
  rintro e w7 ⟨rfl, hb7⟩
  have HG7 := hid (own_on HG6.out hb7)
  have HX7 := hid (own_on HX6.out hb7)
  have HU7 := hid (own_on HU6.out hb7)
  have HB7 := hid (HB6.out.trans (hb7.mono HB6.out.size))
  clear hb7
  go_wp2_with fail
  refine (markIntS_k w2.heap.size 1 xs v3 _ HX7.out hsm (by omega)).mono ?_
  rintro e w8 ⟨rfl, _, ho8⟩
  have hxb : ∀ g, v3.ownBlock = some g → w2.heap.size ≤ g ∧ g < w3.heap.size := fun g hg => HXlt.out g hg
  have HG8 := hid (own_only HG7.out (fun k hk h => by have := hxb _ h; have := HGlt.out k hk; omega) ho8)
  have HU8 := hid (own_only HU7.out (fun k hk h => by have := hxb _ h; have := HUlt.out k hk; omega) ho8)
  have HB8 := hid (HB7.out.trans (ho8.below HB7.out.size (fun k h => by have := hxb _ h; have := HB2.out.size; omega)))
  obtain ⟨q, hq⟩ : ∃ q, 1 + xs.length = q := ⟨_, rfl⟩
  rw [hq]
  clear ho8 hxb hq
  go_wp2_with fail
  refine (eqLineS_c L g u _ (.of_own HG8.out) (.of_own HU8.out) (by omega)).mono ?_
  rintro e w9 ⟨rfl, hb9⟩
  have HG9 := hid (own_on HG8.out hb9)
  have HU9 := hid (own_on HU8.out hb9)
  have HB9 := hid (HB8.out.trans (hb9.mono HB8.out.size))
  clear hb9
  go_wp2_with fail
  refine (markLineS_c _ 1 L g _ HG9.out (by omega) (by omega)).mono ?_
  rintro e w10 ⟨rfl, hown10, ho10⟩
  have HG10 := hid hown10
  have HU10 := hid (own_only HU9.out (fun k hk h => by have := HGlt.out k h; have := HUlt.out k hk; omega) ho10)
  have HB10 := hid (HB9.out.trans (ho10.below HB9.out.size (fun k h => by have := HGlt.out k h; have := HB3.out.size; omega)))
  obtain ⟨q2, hq2⟩ : ∃ q, 1 + 7 * L.length = q := ⟨_, rfl⟩
  have HQ2 := hid hq2
  rw [hq2]
  clear hown10 ho10 hq2
  go_wp2_with fail
  refine (heldLineS_c 1 L.length g _ (.of_own HG10.out) (by omega) (by omega)).mono ?_
  rintro e w11 ⟨rfl, rfl⟩
  rw [HQ2.out]
  go_wp2_with fail
  refine (toIntS_c xs _ _ (HRd.out.on HB10.out) hsm).mono ?_
  rintro e w12 ⟨v12, rfl, hown12, hb12⟩
  have HY12 := hid hown12
  have HCap2 := hid (own_cap3 hown12)
  have HG12 := hid (own_on HG10.out hb12)
  have HU12 := hid (own_on HU10.out hb12)
  have HB12 := hid (HB10.out.trans (hb12.mono HB10.out.size))
  clear hown12 hb12
  go_wp2_with fail
  refine (sweepOf_c xs v12 _ (.of_own HY12.out) HCap2.out (by omega)).mono ?_
  rintro e w13 ⟨h, rfl, hh, hb13⟩
  rw [HL.out] at hh
  have HH13 := hid hh
  have HG13 := hid (own_on HG12.out hb13)
  have HU13 := hid (own_on HU12.out hb13)
  have HB13 := hid (HB12.out.trans (hb13.mono HB12.out.size))
  clear hh hb13
  go_wp2_with fail
  refine (eqLineS_c L h u _ (.of_own HH13.out) (.of_own HU13.out) (by omega)).mono ?_
  rintro e w14 ⟨rfl, hb14⟩
  have HG14 := hid (own_on HG13.out hb14)
  have HB14 := hid (HB13.out.trans (hb14.mono HB13.out.size))
  clear hb14
  go_wp2_with fail
  refine (heldLineS_c 1 L.length g _ (.of_own HG14.out) (by omega) (by omega)).mono ?_
  rintro e w15 ⟨rfl, rfl⟩
  rw [HQ2.out]
  go_wp2_with fail
  go_ret
  exact ⟨rfl, HB14.out⟩
end Go.Proofs.Ytihhpgklpichgab.Sw
