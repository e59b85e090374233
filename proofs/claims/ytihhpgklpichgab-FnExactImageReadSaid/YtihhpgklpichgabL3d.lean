/- The exact law of ImageRead: the walk. -/
import Derived.Test.YtihhpgklpichgabL3a
import Derived.Test.YtihhpgklpichgabSrd2
import Derived.Test.YtihhpgklpichgabRdr4
import Derived.Test.YtihhpgklpichgabMark
set_option linter.unusedSimpArgs false
set_option linter.unusedVariables false
namespace Go.Proofs.Ytihhpgklpichgab.Im
open Go.RowKit Pl Ft Mm In C2

theorem IOwn.only {p : Nat → Prop} {w w' : World} {B : Nat} {vc vd vn : Value} {m : Img} (h : IOwn w B vc vd vn m) (hp : ∀ g, inImg vc vd vn g → ¬ p g) (ho : Only p w w') : IOwn w' B vc vd vn m :=
  ⟨own_only h.c (fun g hg => hp g (.inl hg)) ho, own_only h.d (fun g hg => hp g (.inr (.inl hg))) ho, own_only h.n (fun g hg => hp g (.inr (.inr hg))) ho, h.ne⟩
theorem sm_read (l : List Int) : Sm ((readS l).getD zImg) := by
  unfold readS
  split
  · rename_i h
    simp only [Bool.and_eq_true] at h
    exact sm_imageU l h.1
  · exact ⟨by simp [zImg], by simp [zImg], by simp [zImg], fun x hx => by cases hx⟩
set_option maxRecDepth 100000 in
set_option maxHeartbeats 2000000 in
theorem exactImageRead_w (l : List Int) (v : Value) (w : World) (hr : Rd w v l) (hlen : l.length ≤ 9223372036854775807) :
    Calls Try.prog 10 #[v] w fun e w' => e = .returned (.bool true) ∧ Below w.heap.size w w' := by
  have HRd := hid hr
  obtain ⟨a, cap, rfl, _⟩ := hr
  by_cases hsm : l.length ≤ 1048576
  case neg =>
    go_enter Try.func10, Try.ntmps10
    go_wp2_with fail
    go_ret
    exact ⟨rfl, Below.refl _ _⟩
  have HS := hid (sm_read l)
  have HQ := hid (read_eq l)
  obtain ⟨m, hm⟩ : ∃ m, (readS l).getD zImg = m := ⟨_, rfl⟩
  obtain ⟨b, hb⟩ : ∃ b, (readS l).isSome = b := ⟨_, rfl⟩
  rw [hm] at HS
  have HM := hid hm
  have HBo := hid hb
  clear hm hb
  go_enter Try.func10, Try.ntmps10
  go_wp2_with fail
  refine (toIntS_c l _ _ HRd.out hsm).mono ?_
  rintro e w1 ⟨v1, rfl, hown1, hb1⟩
  have HOw1 := hid hown1
  have HB1 := hid hb1
  clear hown1 hb1
  go_wp2_with fail
  refine (sImageRead_c v1 l _ (.of_own HOw1.out) hsm (fun a n c h => by subst h; exact (HOw1.out.lt _ rfl).2)).mono ?_
  rintro e w2 ⟨uc, ud, un, rfl, hio, hb2⟩
  rw [HM.out] at hio
  rw [HM.out, HBo.out]
  have HU2 := hid hio
  have HUlt := hid (fun g hg => hio.lt g hg)
  have HB2 := hid (HB1.out.trans (hb2.mono HB1.out.size))
  clear hio hb2
  obtain ⟨us1, uc1, rfl⟩ := own_slice HU2.out.c
  obtain ⟨us2, uc2, rfl⟩ := own_slice HU2.out.d
  obtain ⟨us3, uc3, rfl⟩ := own_slice HU2.out.n
  unfold imgVal
  go_wp2_with fail
  have hal := (Below.refl w2.heap.size w2).alloc (Nat.le_refl _) (.cells #[.slice us1 m.code.length uc1, .int .i64 m.entry, .int .i64 m.room, .slice us2 m.data.length uc2, .slice us3 m.names.length uc3] 48)
  have HW3 := hid (Row.new w2 48 #[.slice us1 m.code.length uc1, .int .i64 m.entry, .int .i64 m.room, .slice us2 m.data.length uc2, .slice us3 m.names.length uc3])
  have HU3 := hid (HU2.out.on hal)
  have HB3 := hid (HB2.out.trans (hal.mono HB2.out.size))
  have hz3 : w2.heap.size < (w2.alloc (.cells #[.slice us1 m.code.length uc1, .int .i64 m.entry, .int .i64 m.room, .slice us2 m.data.length uc2, .slice us3 m.names.length uc3] 48)).heap.size := by simp
  obtain ⟨wb, hwb⟩ : ∃ wb, w2.heap.size = wb := ⟨_, rfl⟩
  have HUlt2 := hid (show ∀ g, inImg (.slice us1 m.code.length uc1) (.slice us2 m.data.length uc2) (.slice us3 m.names.length uc3) g → g < wb from fun g hg => by have := HUlt.out g hg; omega)
  rw [hwb] at HW3 hz3 ⊢
  clear hal hwb
  generalize w2.alloc (.cells #[.slice us1 m.code.length uc1, .int .i64 m.entry, .int .i64 m.room, .slice us2 m.data.length uc2, .slice us3 m.names.length uc3] 48) = w3 at HW3 HU3 HB3 hz3 ⊢
  refine (toIntS_c l _ _ (HRd.out.on HB3.out) hsm).mono ?_
  rintro e w4 ⟨v4, rfl, hown4, hb4⟩
  have HX4 := hid hown4
  have HXlt := hid (fun g hg => hown4.lt g hg)
  have HCap := hid (own_cap hown4)
  have HW4 := hid (HW3.out.on hb4)
  have HU4 := hid (HU3.out.on hb4)
  have HB4 := hid (HB3.out.trans (hb4.mono HB3.out.size))
  have hz4 := hb4.size
  clear hown4 hb4
  go_wp2_with fail
  refine (imageRead_c v4 l _ (.of_own HX4.out) HCap.out hsm (fun a n c h => by subst h; exact (HX4.out.lt _ rfl).2)).mono ?_
  rintro e w5 ⟨gc, gd, gn, rfl, hio, hb5⟩
  rw [HQ.out, HM.out] at hio
  rw [HQ.out, HM.out, HBo.out]
  have HG5 := hid hio
  have HGlt := hid (fun g hg => hio.lt g hg)
  have HX5 := hid (own_on HX4.out hb5)
  have HW5 := hid (HW4.out.on hb5)
  have HU5 := hid (HU4.out.on hb5)
  have HB5 := hid (HB4.out.trans (hb5.mono HB4.out.size))
  have hz5 := hb5.size
  clear hio hb5
  obtain ⟨gs1, gc1, rfl⟩ := own_slice HG5.out.c
  obtain ⟨gs2, gc2, rfl⟩ := own_slice HG5.out.d
  obtain ⟨gs3, gc3, rfl⟩ := own_slice HG5.out.n
  unfold imgVal
  have hwx := HW5.out.lt
  have x0 := HW5.out.cell 0
  have x1 := HW5.out.cell 1
  have x2 := HW5.out.cell 2
  have x3 := HW5.out.cell 3
  have x4 := HW5.out.cell 4
  simp at x0 x1 x2 x3 x4
  go_wp2_with fail
  have hal := (Below.refl w5.heap.size w5).alloc (Nat.le_refl _) (.cells #[.slice gs1 m.code.length gc1, .int .i64 m.entry, .int .i64 m.room, .slice gs2 m.data.length gc2, .slice gs3 m.names.length gc3] 48)
  have HR6 := hid (Row.new w5 48 #[.slice gs1 m.code.length gc1, .int .i64 m.entry, .int .i64 m.room, .slice gs2 m.data.length gc2, .slice gs3 m.names.length gc3])
  have HG6 := hid (HG5.out.on hal)
  have HX6 := hid (own_on HX5.out hal)
  have HW6 := hid (HW5.out.on hal)
  have HU6 := hid (HU5.out.on hal)
  have HB6 := hid (HB5.out.trans (hal.mono HB5.out.size))
  have hz6 : w5.heap.size < (w5.alloc (.cells #[.slice gs1 m.code.length gc1, .int .i64 m.entry, .int .i64 m.room, .slice gs2 m.data.length gc2, .slice gs3 m.names.length gc3] 48)).heap.size := by simp
  obtain ⟨gb, hgb⟩ : ∃ gb, w5.heap.size = gb := ⟨_, rfl⟩
  have HGlt2 := hid (show ∀ g, inImg (.slice gs1 m.code.length gc1) (.slice gs2 m.data.length gc2) (.slice gs3 m.names.length gc3) g → w4.heap.size ≤ g ∧ g < gb from fun g hg => by have := HGlt.out g hg; omega)
  rw [hgb] at HR6 hz6 ⊢
  have hgb4 : w4.heap.size ≤ gb := by omega
  clear hal hgb x0 x1 x2 x3 x4
  generalize w5.alloc (.cells #[.slice gs1 m.code.length gc1, .int .i64 m.entry, .int .i64 m.room, .slice gs2 m.data.length gc2, .slice gs3 m.names.length gc3] 48) = w6 at HR6 HG6 HX6 HW6 HU6 HB6 hz6 ⊢
  refine (eqImage_own m _ _ _ _ _ _ _ HG6.out HU6.out HS.out).mono ?_
  rintro e w7 ⟨rfl, hb7⟩
  have HR7 := hid (HR6.out.on hb7)
  have HG7 := hid (HG6.out.on hb7)
  have HX7 := hid (own_on HX6.out hb7)
  have HW7 := hid (HW6.out.on hb7)
  have HU7 := hid (HU6.out.on hb7)
  have HB7 := hid (HB6.out.trans (hb7.mono HB6.out.size))
  have hz7 := hb7.size
  clear hb7
  go_wp2_with fail
  refine (toIntS_c l _ _ (HRd.out.on HB7.out) hsm).mono ?_
  rintro e w8 ⟨v8, rfl, hown8, hb8⟩
  have HT8 := hid hown8
  have HR8 := hid (HR7.out.on hb8)
  have HG8 := hid (HG7.out.on hb8)
  have HX8 := hid (own_on HX7.out hb8)
  have HW8 := hid (HW7.out.on hb8)
  have HU8 := hid (HU7.out.on hb8)
  have HB8 := hid (HB7.out.trans (hb8.mono HB7.out.size))
  clear hown8 hb8
  go_wp2_with fail
  refine (eqIntS_b l v4 v8 _ (.of_own HX8.out) (.of_own HT8.out) (by omega)).mono ?_
  rintro e w9 ⟨rfl, hb9⟩
  have HR9 := hid (HR8.out.on hb9)
  have HG9 := hid (HG8.out.on hb9)
  have HX9 := hid (own_on HX8.out hb9)
  have HW9 := hid (HW8.out.on hb9)
  have HU9 := hid (HU8.out.on hb9)
  have HB9 := hid (HB8.out.trans (hb9.mono HB8.out.size))
  clear hb9
  go_wp2_with fail
  refine (markIntS_k w3.heap.size 1 l v4 _ HX9.out hsm (by omega)).mono ?_
  rintro e w10 ⟨rfl, _, ho10⟩
  have hxb : ∀ g, v4.ownBlock = some g → w3.heap.size ≤ g ∧ g < w4.heap.size := fun g hg => HXlt.out g hg
  have HR10 := hid (row_only HR9.out (fun h => by have := hxb _ h; omega) ho10)
  have HG10 := hid (HG9.out.only (fun g hg h => by have := hxb _ h; have := HGlt2.out g hg; omega) ho10)
  have HW10 := hid (row_only HW9.out (fun h => by have := hxb _ h; omega) ho10)
  have HU10 := hid (HU9.out.only (fun g hg h => by have := hxb _ h; have := HUlt2.out g hg; omega) ho10)
  have HB10 := hid (HB9.out.trans (ho10.below HB9.out.size (fun k h => by have := hxb _ h; have := HB3.out.size; omega)))
  obtain ⟨q, hq⟩ : ∃ q, 1 + l.length = q := ⟨_, rfl⟩
  rw [hq]
  clear ho10 hxb hq
  have x0 := HR10.out.cell 0
  have x1 := HR10.out.cell 1
  have x2 := HR10.out.cell 2
  have x3 := HR10.out.cell 3
  have x4 := HR10.out.cell 4
  have y0 := HW10.out.cell 0
  have y1 := HW10.out.cell 1
  have y2 := HW10.out.cell 2
  have y3 := HW10.out.cell 3
  have y4 := HW10.out.cell 4
  simp at x0 x1 x2 x3 x4 y0 y1 y2 y3 y4
  go_wp2_with fail
  refine (eqImage_own m _ _ _ _ _ _ _ HG10.out HU10.out HS.out).mono ?_
  rintro e w11 ⟨rfl, hb11⟩
  have HR11 := hid (HR10.out.on hb11)
  have HG11 := hid (HG10.out.on hb11)
  have HW11 := hid (HW10.out.on hb11)
  have HU11 := hid (HU10.out.on hb11)
  have HB11 := hid (HB10.out.trans (hb11.mono HB10.out.size))
  clear hb11 x0 x1 x2 x3 x4 y0 y1 y2 y3 y4
  have x0 := HR11.out.cell 0
  have x1 := HR11.out.cell 1
  have x2 := HR11.out.cell 2
  have x3 := HR11.out.cell 3
  have x4 := HR11.out.cell 4
  simp at x0 x1 x2 x3 x4
  go_wp2_with fail
  refine (markImage_c m w4.heap.size _ _ _ _ HG11.out HS.out).mono ?_
  rintro e w12 ⟨rfl, hio12, ho12⟩
  have HG12 := hid hio12
  have HR12 := hid (row_only HR11.out (fun h => by have := HGlt2.out _ h; omega) ho12)
  have HW12 := hid (row_only HW11.out (fun h => by have := HGlt2.out _ h; omega) ho12)
  have HU12 := hid (HU11.out.only (fun g hg h => by have := HGlt2.out _ h; have := HUlt2.out g hg; omega) ho12)
  have HB12 := hid (HB11.out.trans (ho12.below HB11.out.size (fun k h => by have := HGlt2.out _ h; have := HB4.out.size; omega)))
  clear hio12 ho12 x0 x1 x2 x3 x4
  have x0 := HR12.out.cell 0
  have x1 := HR12.out.cell 1
  have x2 := HR12.out.cell 2
  have x3 := HR12.out.cell 3
  have x4 := HR12.out.cell 4
  simp at x0 x1 x2 x3 x4
  go_wp2_with fail
  refine (heldImage_c m _ _ _ _ _ _ HG12.out.cells HS.out).mono ?_
  rintro e w13 ⟨rfl, hb13⟩
  have HG13 := hid (HG12.out.on hb13)
  have HR13 := hid (HR12.out.on hb13)
  have HW13 := hid (HW12.out.on hb13)
  have HU13 := hid (HU12.out.on hb13)
  have HB13 := hid (HB12.out.trans (hb13.mono HB12.out.size))
  obtain ⟨q2, hq2⟩ : ∃ q, markEnd m = q := ⟨_, rfl⟩
  have HQ2 := hid hq2
  rw [hq2]
  clear hb13 hq2 x0 x1 x2 x3 x4
  go_wp2_with fail
  refine (toIntS_c l _ _ (HRd.out.on HB13.out) hsm).mono ?_
  rintro e w14 ⟨v14, rfl, hown14, hb14⟩
  have HY14 := hid hown14
  have HCap2 := hid (own_cap hown14)
  have HG14 := hid (HG13.out.on hb14)
  have HR14 := hid (HR13.out.on hb14)
  have HW14 := hid (HW13.out.on hb14)
  have HU14 := hid (HU13.out.on hb14)
  have HB14 := hid (HB13.out.trans (hb14.mono HB13.out.size))
  clear hown14 hb14
  go_wp2_with fail
  refine (imageRead_c v14 l _ (.of_own HY14.out) HCap2.out hsm (fun a n c h => by subst h; exact (HY14.out.lt _ rfl).2)).mono ?_
  rintro e w15 ⟨hc, hd, hn, rfl, hio, hb15⟩
  rw [HQ.out, HM.out] at hio
  rw [HQ.out, HM.out, HBo.out]
  have HH15 := hid hio
  have HG15 := hid (HG14.out.on hb15)
  have HR15 := hid (HR14.out.on hb15)
  have HW15 := hid (HW14.out.on hb15)
  have HU15 := hid (HU14.out.on hb15)
  have HB15 := hid (HB14.out.trans (hb15.mono HB14.out.size))
  clear hio hb15
  obtain ⟨hs1, hc1, rfl⟩ := own_slice HH15.out.c
  obtain ⟨hs2, hc2, rfl⟩ := own_slice HH15.out.d
  obtain ⟨hs3, hc3, rfl⟩ := own_slice HH15.out.n
  unfold imgVal
  have hwx2 := HW15.out.lt
  have x0 := HW15.out.cell 0
  have x1 := HW15.out.cell 1
  have x2 := HW15.out.cell 2
  have x3 := HW15.out.cell 3
  have x4 := HW15.out.cell 4
  simp at x0 x1 x2 x3 x4
  go_wp2_with fail
  have hal := (Below.refl w15.heap.size w15).alloc (Nat.le_refl _) (.cells #[.slice hs1 m.code.length hc1, .int .i64 m.entry, .int .i64 m.room, .slice hs2 m.data.length hc2, .slice hs3 m.names.length hc3] 48)
  have HH16 := hid (HH15.out.on hal)
  have HG16 := hid (HG15.out.on hal)
  have HR16 := hid (HR15.out.on hal)
  have HU16 := hid (HU15.out.on hal)
  have HB16 := hid (HB15.out.trans (hal.mono HB15.out.size))
  clear hal x0 x1 x2 x3 x4
  refine (eqImage_own m _ _ _ _ _ _ _ HH16.out HU16.out HS.out).mono ?_
  rintro e w17 ⟨rfl, hb17⟩
  have HG17 := hid (HG16.out.on hb17)
  have HR17 := hid (HR16.out.on hb17)
  have HB17 := hid (HB16.out.trans (hb17.mono HB16.out.size))
  clear hb17
  have x0 := HR17.out.cell 0
  have x1 := HR17.out.cell 1
  have x2 := HR17.out.cell 2
  have x3 := HR17.out.cell 3
  have x4 := HR17.out.cell 4
  simp at x0 x1 x2 x3 x4
  go_wp2_with fail
  refine (heldImage_c m _ _ _ _ _ _ HG17.out.cells HS.out).mono ?_
  rintro e w18 ⟨rfl, hb18⟩
  have HB18 := hid (HB17.out.trans (hb18.mono HB17.out.size))
  rw [HQ2.out]
  clear hb18 x0 x1 x2 x3 x4
  go_wp2_with fail
  go_ret
  exact ⟨rfl, HB18.out⟩
end Go.Proofs.Ytihhpgklpichgab.Im
