/- Whether two images are equal, by the program and by the model. -/
import Derived.Test.YtihhpgklpichgabIm6
import Derived.Deep.RegionWith
import Derived.RegionTactic
import Derived.BigRegion
set_option linter.unusedSimpArgs false
set_option linter.unusedVariables false
namespace Go.Proofs.Ytihhpgklpichgab.Im
open Go.RowKit Pl Ft Mm In C2

theorem eq_below {P : Program} {f : FuncId} {args : Array Value} {b : Bool} {w : World} (h : Calls P f args w (EqPost b w)) : Calls P f args w fun e w' => e = .returned (.bool b) ∧ Below w.heap.size w w' := by
  refine h.mono ?_
  rintro e w' ⟨rfl, m, rfl⟩
  exact ⟨rfl, below_drewN w m⟩
def sameImg (a b : Img) : Bool := (a.entry == b.entry) && ((a.room == b.room) && (eqInts a.code b.code && (eqInts a.data b.data && eqNames a.names b.names)))
def imgSame (a b : Img) : Bool := imageOk a && (imageOk b && sameImg a b)
abbrev boxOf (vc vd vn : Value) (m : Img) : Array Value := #[vc, .int .i64 m.entry, .int .i64 m.room, vd, vn]
set_option maxHeartbeats 2000000 in
theorem imageSame_c (a b : Img) (ac ad an bc bd bn : Value) (w : World) (ha : ICells w ac ad an a) (hb : ICells w bc bd bn b) (hsa : Sm a) (hsb : Sm b) :
    Calls Try.prog 34 #[imgVal ac ad an a, imgVal bc bd bn b] w fun e w' => e = .returned (.bool (imgSame a b)) ∧ Below w.heap.size w w' := by
  have ha1 := (Below.refl w.heap.size w).alloc (Nat.le_refl _) (.cells #[ac, .int .i64 a.entry, .int .i64 a.room, ad, an] 48)
  have HB0 := hid (ha1.alloc ha1.size (.cells #[bc, .int .i64 b.entry, .int .i64 b.room, bd, bn] 48))
  have HX0 := hid ((Row.new w 48 #[ac, .int .i64 a.entry, .int .i64 a.room, ad, an]).alloc (.cells #[bc, .int .i64 b.entry, .int .i64 b.room, bd, bn] 48))
  have HY0 := hid (Row.new (w.alloc (.cells #[ac, .int .i64 a.entry, .int .i64 a.room, ad, an] 48)) 48 #[bc, .int .i64 b.entry, .int .i64 b.room, bd, bn])
  simp only [World.size_alloc] at HY0
  have HA := hid ha
  have HB := hid hb
  have HSa := hid hsa
  have HSb := hid hsb
  have hla := hsa.c
  have hlb := hsb.c
  have hda := hsa.d
  have hdb := hsb.d
  clear ha1 ha hb hsa hsb
  have hVa : imgVal ac ad an a = .agg #[ac, .int .i64 a.entry, .int .i64 a.room, ad, an] := rfl
  have hVb : imgVal bc bd bn b = .agg #[bc, .int .i64 b.entry, .int .i64 b.room, bd, bn] := rfl
  rw [hVa, hVb]
  clear hVa hVb
  go_enter Try.func34, Try.ntmps34
  go_wp2_with fail
  refine (imageOk_c a ac ad an _ (HA.out.on HB0.out) HSa.out).mono ?_
  rintro e w1 ⟨rfl, hb1⟩
  have HB1 := hid (HB0.out.trans (hb1.mono HB0.out.size))
  have HX1 := hid (HX0.out.on hb1)
  have HY1 := hid (HY0.out.on hb1)
  have hz1 := hb1.size
  simp only [World.size_alloc] at hz1
  clear hb1
  cases hoa : imageOk a
  · have HOa := hid hoa
    clear hoa
    go_wp2_with fail
    go_ret
    exact ⟨bool_eq (by rw [imgSame, HOa.out]; rfl), HB1.out⟩
  have HOa := hid hoa
  clear hoa
  have y0 := HY1.out.cell 0
  have y1 := HY1.out.cell 1
  have y2 := HY1.out.cell 2
  have y3 := HY1.out.cell 3
  have y4 := HY1.out.cell 4
  simp at y0 y1 y2 y3 y4
  go_wp2_with fail
  refine (imageOk_c b bc bd bn _ (HB.out.on HB1.out) HSb.out).mono ?_
  rintro e w2 ⟨rfl, hb2⟩
  have HB2 := hid (HB1.out.trans (hb2.mono HB1.out.size))
  have HX2 := hid (HX1.out.on hb2)
  have HY2 := hid (HY1.out.on hb2)
  have hz2 := hb2.size
  clear hb2 y0 y1 y2 y3 y4
  cases hob : imageOk b
  · have HOb := hid hob
    clear hob
    go_wp2_with fail
    go_ret
    exact ⟨bool_eq (by rw [imgSame, HOb.out, Bool.false_and, Bool.and_false]), HB2.out⟩
  have HOb := hid hob
  clear hob
  have HQ := hid (show imgSame a b = sameImg a b by rw [imgSame, HOa.out, HOb.out]; rfl)
  have x0 := HX2.out.cell 0
  have x1 := HX2.out.cell 1
  have x2 := HX2.out.cell 2
  have x3 := HX2.out.cell 3
  have x4 := HX2.out.cell 4
  have y0 := HY2.out.cell 0
  have y1 := HY2.out.cell 1
  have y2 := HY2.out.cell 2
  have y3 := HY2.out.cell 3
  have y4 := HY2.out.cell 4
  simp at x0 x1 x2 x3 x4 y0 y1 y2 y3 y4
  cases he : (a.entry == b.entry)
  · have HE := hid he
    go_wp2_with fail
    go_ret
    exact ⟨bool_eq (by rw [HQ.out, sameImg, HE.out]; rfl), HB2.out⟩
  cases hr : (a.room == b.room)
  · have HE := hid he
    have HR := hid hr
    go_wp2_with fail
    go_ret
    exact ⟨bool_eq (by rw [HQ.out, sameImg, HE.out, HR.out]; rfl), HB2.out⟩
  have HE := hid he
  have HR := hid hr
  go_wp2_with fail
  clear he hr
  refine (eq_below (equalI_c a.code b.code ac bc _ (HA.out.on HB2.out).c (HB.out.on HB2.out).c (by omega) (by omega))).mono ?_
  rintro e w3 ⟨rfl, hb3⟩
  have HB3 := hid (HB2.out.trans (hb3.mono HB2.out.size))
  have HX3 := hid (HX2.out.on hb3)
  have HY3 := hid (HY2.out.on hb3)
  have hz3 := hb3.size
  clear hb3 x0 x1 x2 x3 x4 y0 y1 y2 y3 y4
  cases hc : eqInts a.code b.code
  · have HC := hid hc
    clear hc
    go_wp2_with fail
    go_ret
    exact ⟨bool_eq (by rw [HQ.out, sameImg, HE.out, HR.out, HC.out]; rfl), HB3.out⟩
  have HC := hid hc
  clear hc
  have x3 := HX3.out.cell 3
  have x4 := HX3.out.cell 4
  have y3 := HY3.out.cell 3
  have y4 := HY3.out.cell 4
  simp at x3 x4 y3 y4
  go_wp2_with fail
  refine (eq_below (equalI_c a.data b.data ad bd _ (HA.out.on HB3.out).d (HB.out.on HB3.out).d (by omega) (by omega))).mono ?_
  rintro e w4 ⟨rfl, hb4⟩
  have HB4 := hid (HB3.out.trans (hb4.mono HB3.out.size))
  have HX4 := hid (HX3.out.on hb4)
  have HY4 := hid (HY3.out.on hb4)
  have hz4 := hb4.size
  clear hb4 x3 x4 y3 y4
  cases hd : eqInts a.data b.data
  · have HD := hid hd
    clear hd
    go_wp2_with fail
    go_ret
    exact ⟨bool_eq (by rw [HQ.out, sameImg, HE.out, HR.out, HC.out, HD.out]; rfl), HB4.out⟩
  have HD := hid hd
  clear hd
  have x4 := HX4.out.cell 4
  have y4 := HY4.out.cell 4
  simp at x4 y4
  go_wp2_with fail
  refine (eq_below (equalN_c a.names b.names an bn _ (HA.out.on HB4.out).n (HB.out.on HB4.out).n HSa.out.n HSb.out.n)).mono ?_
  rintro e w5 ⟨rfl, hb5⟩
  have HB5 := hid (HB4.out.trans (hb5.mono HB4.out.size))
  clear hb5 x4 y4
  go_wp2_with fail
  go_ret
  exact ⟨bool_eq (by rw [HQ.out, sameImg, HE.out, HR.out, HC.out, HD.out]; rfl), HB5.out⟩
set_option maxHeartbeats 2000000 in
theorem sSameImage_c (a b : Img) (ac ad an bc bd bn : Value) (w : World) (ha : ICells w ac ad an a) (hb : ICells w bc bd bn b) (hsa : Sm a) (hsb : Sm b) :
    Calls Try.prog 81 #[imgVal ac ad an a, imgVal bc bd bn b] w fun e w' => e = .returned (.bool (sameImg a b)) ∧ Below w.heap.size w w' := by
  obtain ⟨an1, can, rfl, hna⟩ := ha.n
  obtain ⟨bn1, cbn, rfl, hnb⟩ := hb.n
  have ha1 := (Below.refl w.heap.size w).alloc (Nat.le_refl _) (.cells #[ac, .int .i64 a.entry, .int .i64 a.room, ad, .slice an1 a.names.length can] 48)
  have HB0 := hid (ha1.alloc ha1.size (.cells #[bc, .int .i64 b.entry, .int .i64 b.room, bd, .slice bn1 b.names.length cbn] 48))
  have HX0 := hid ((Row.new w 48 #[ac, .int .i64 a.entry, .int .i64 a.room, ad, .slice an1 a.names.length can]).alloc (.cells #[bc, .int .i64 b.entry, .int .i64 b.room, bd, .slice bn1 b.names.length cbn] 48))
  have HY0 := hid (Row.new (w.alloc (.cells #[ac, .int .i64 a.entry, .int .i64 a.room, ad, .slice an1 a.names.length can] 48)) 48 #[bc, .int .i64 b.entry, .int .i64 b.room, bd, .slice bn1 b.names.length cbn])
  simp only [World.size_alloc] at HY0
  have HA := hid ha
  have HB := hid hb
  have HNa := hid hna
  have HNb := hid hnb
  have hla := hsa.c
  have hlb := hsb.c
  have hda := hsa.d
  have hdb := hsb.d
  have hna1 := hsa.n
  have hnb1 := hsb.n
  clear ha1 ha hb hsa hsb hna hnb
  have hVa : imgVal ac ad (.slice an1 a.names.length can) a = .agg #[ac, .int .i64 a.entry, .int .i64 a.room, ad, .slice an1 a.names.length can] := rfl
  have hVb : imgVal bc bd (.slice bn1 b.names.length cbn) b = .agg #[bc, .int .i64 b.entry, .int .i64 b.room, bd, .slice bn1 b.names.length cbn] := rfl
  rw [hVa, hVb]
  clear hVa hVb
  by_cases hl : a.names.length = b.names.length
  case neg =>
    have HN := hid (eqNames_len hl)
    have hne : ((a.names.length : Int) == (b.names.length : Int)) = false := by rw [beq_eq_false_iff_ne]; omega
    have hne2 : ((a.names.length : Int) != (b.names.length : Int)) = true := by rw [bne_iff_ne]; omega
    go_enter Try.func81, Try.ntmps81
    go_wp2_with fail
    go_ret
    exact ⟨bool_eq (by rw [sameImg, HN.out]; simp), HB0.out⟩
  have HL := hid hl
  go_enter Try.func81, Try.ntmps81
  have hne2 : ((a.names.length : Int) != (b.names.length : Int)) = false := by rw [hl]; simp
  clear hl
  go_wp2_with fail
  clear hne2
  go_loopw [5] (fun c wr => ∃ k : Nat, c = .int .i64 k ∧ k ≤ a.names.length ∧ SameNTo a.names b.names k ∧ ∃ m, wr = ((w.alloc (.cells #[ac, .int .i64 a.entry, .int .i64 a.room, ad, .slice an1 a.names.length can] 48)).alloc (.cells #[bc, .int .i64 b.entry, .int .i64 b.room, bd, .slice bn1 b.names.length cbn] 48)).drewN m) (fun c _ => a.names.length - (intOf c).toNat)
  case atStart => exact ⟨0, rfl, by omega, fun j hj => by omega, 0, rfl⟩
  case round =>
    obtain ⟨k, rfl, hk, hs, hw⟩ := hrel
    have HS := hid hs
    have HW := hid hw
    have HBw := hid (show Below w.heap.size w wr by obtain ⟨m, rfl⟩ := hw; exact HB0.out.trans ((below_drewN _ m).mono HB0.out.size))
    have HXr := hid (show Row wr w.heap.size 48 #[ac, .int .i64 a.entry, .int .i64 a.room, ad, .slice an1 a.names.length can] by obtain ⟨m, rfl⟩ := hw; exact HX0.out.drewN m)
    have HYr := hid (show Row wr (w.heap.size + 1) 48 #[bc, .int .i64 b.entry, .int .i64 b.room, bd, .slice bn1 b.names.length cbn] by obtain ⟨m, rfl⟩ := hw; exact HY0.out.drewN m)
    clear hs hw
    have x0 := HXr.out.cell 0
    have x1 := HXr.out.cell 1
    have x2 := HXr.out.cell 2
    have x3 := HXr.out.cell 3
    have x4 := HXr.out.cell 4
    have y0 := HYr.out.cell 0
    have y1 := HYr.out.cell 1
    have y2 := HYr.out.cell 2
    have y3 := HYr.out.cell 3
    have y4 := HYr.out.cell 4
    simp at x0 x1 x2 x3 x4 y0 y1 y2 y3 y4
    by_cases hlt : k < a.names.length
    · rcases HNa.out with h | ⟨g, o, rfl, hg, hc⟩
      · rw [h] at hlt; simp at hlt
      rcases HNb.out with h | ⟨g2, o2, rfl, hg2, hc2⟩
      · have := HL.out; rw [h] at this; simp at this; rw [this] at hlt; simp at hlt
      obtain ⟨q1, q2⟩ := hc k hlt
      obtain ⟨r1, r2⟩ := hc2 k (by have := HL.out; omega)
      obtain ⟨s, hs1⟩ : ∃ x, (a.names.getD k .none).text = x := ⟨_, rfl⟩
      obtain ⟨x, hx1⟩ : ∃ x, (a.names.getD k .none).at_ = x := ⟨_, rfl⟩
      obtain ⟨t, ht1⟩ : ∃ x, (b.names.getD k .none).text = x := ⟨_, rfl⟩
      obtain ⟨y, hy1⟩ : ∃ x, (b.names.getD k .none).at_ = x := ⟨_, rfl⟩
      rw [hs1, ← HBw.out.cell (p := ⟨g, o + k * 2, none⟩) hg] at q1
      rw [hx1, ← HBw.out.cell (p := ⟨g, o + k * 2 + 1, none⟩) hg] at q2
      rw [ht1, ← HBw.out.cell (p := ⟨g2, o2 + k * 2, none⟩) hg2] at r1
      rw [hy1, ← HBw.out.cell (p := ⟨g2, o2 + k * 2 + 1, none⟩) hg2] at r2
      have HE := hid (show eqNm (a.names.getD k .none) (b.names.getD k .none) = ((s.toList == t.toList) && (x == y)) by rw [eqNm, hs1, hx1, ht1, hy1])
      have k1 : (k : Int) < a.names.length := by omega
      have k2 : (k : Int) < b.names.length := by have := HL.out; omega
      have k0 : 0 ≤ (k : Int) := by omega
      clear hc hc2 hs1 hx1 ht1 hy1
      cases hb : ((s.toList == t.toList) && (x == y))
      · have HN := hid (eqNames_no (b := b.names) hlt (HE.out.trans hb))
        have hnq := neq_name s t x y hb
        have hgn := fun op p q => guard_name op p q #[.string s, .int .i64 x] #[.string t, .int .i64 y]
        simp only [Bool.not_false] at hnq
        clear hb
        go_wp2_with fail
        go_quiet (fail)
        clear q1 q2 r1 r2 hnq hgn
        go_wp2_with fail
        go_ret
        exact ⟨bool_eq (by rw [sameImg, HN.out]; simp), HBw.out.trans ((below_drewN _ _).mono HBw.out.size)⟩
      · have HS2 := hid (HS.out.succ (HE.out.trans hb))
        have hnq := neq_name s t x y hb
        have hgn := fun op p q => guard_name op p q #[.string s, .int .i64 x] #[.string t, .int .i64 y]
        simp only [Bool.not_true] at hnq
        clear hb
        go_wp2_with fail
        go_quiet (fail)
        clear q1 q2 r1 r2 hnq hgn
        go_wp2_with fail
        go_roundw
        case rel => exact ⟨k + 1, by go_num, by omega, HS2.out, wd_more HW.out _⟩
        case measure => simp [intOf]; omega
    · obtain rfl : k = a.names.length := by omega
      have HN := hid (eqNames_yes HL.out HS.out)
      go_wp2_with fail
      refine (eq_below (sameInts_q a.code b.code ac bc _ (HA.out.on HBw.out).c (HB.out.on HBw.out).c (by omega) (by omega))).mono ?_
      rintro e w3 ⟨rfl, hb3⟩
      have HB3 := hid (HBw.out.trans (hb3.mono HBw.out.size))
      have HX3 := hid (HXr.out.on hb3)
      have HY3 := hid (HYr.out.on hb3)
      have hz3 := hb3.size
      clear hb3 x0 x1 x2 x3 x4 y0 y1 y2 y3 y4
      cases hc : eqInts a.code b.code
      · have HC := hid hc
        clear hc
        go_wp2_with fail
        go_ret
        exact ⟨bool_eq (by rw [sameImg, HC.out]; simp), HB3.out⟩
      have HC := hid hc
      clear hc
      have x1 := HX3.out.cell 1
      have x2 := HX3.out.cell 2
      have x3 := HX3.out.cell 3
      have y1 := HY3.out.cell 1
      have y2 := HY3.out.cell 2
      have y3 := HY3.out.cell 3
      simp at x1 x2 x3 y1 y2 y3
      cases he : (a.entry == b.entry)
      · have HE := hid he
        go_wp2_with fail
        go_ret
        exact ⟨bool_eq (by rw [sameImg, HE.out]; rfl), HB3.out⟩
      have HE := hid he
      cases hr : (a.room == b.room)
      · have HR := hid hr
        go_wp2_with fail
        go_ret
        exact ⟨bool_eq (by rw [sameImg, HE.out, HR.out]; rfl), HB3.out⟩
      have HR := hid hr
      go_wp2_with fail
      clear he hr
      refine (eq_below (sameInts_q a.data b.data ad bd _ (HA.out.on HB3.out).d (HB.out.on HB3.out).d (by omega) (by omega))).mono ?_
      rintro e w4 ⟨rfl, hb4⟩
      have HB4 := hid (HB3.out.trans (hb4.mono HB3.out.size))
      clear hb4 x1 x2 x3 y1 y2 y3
      go_wp2_with fail
      go_ret
      exact ⟨bool_eq (by rw [sameImg, HE.out, HR.out, HC.out, HN.out]; simp), HB4.out⟩
set_option maxHeartbeats 2000000 in
theorem sImageSame_c (a b : Img) (ac ad an bc bd bn : Value) (w : World) (ha : ICells w ac ad an a) (hb : ICells w bc bd bn b) (hsa : Sm a) (hsb : Sm b) :
    Calls Try.prog 33 #[imgVal ac ad an a, imgVal bc bd bn b] w fun e w' => e = .returned (.bool (imgSame a b)) ∧ Below w.heap.size w w' := by
  have ha1 := (Below.refl w.heap.size w).alloc (Nat.le_refl _) (.cells #[ac, .int .i64 a.entry, .int .i64 a.room, ad, an] 48)
  have HB0 := hid (ha1.alloc ha1.size (.cells #[bc, .int .i64 b.entry, .int .i64 b.room, bd, bn] 48))
  have HX0 := hid ((Row.new w 48 #[ac, .int .i64 a.entry, .int .i64 a.room, ad, an]).alloc (.cells #[bc, .int .i64 b.entry, .int .i64 b.room, bd, bn] 48))
  have HY0 := hid (Row.new (w.alloc (.cells #[ac, .int .i64 a.entry, .int .i64 a.room, ad, an] 48)) 48 #[bc, .int .i64 b.entry, .int .i64 b.room, bd, bn])
  simp only [World.size_alloc] at HY0
  have HA := hid ha
  have HB := hid hb
  have HSa := hid hsa
  have HSb := hid hsb
  clear ha1 ha hb hsa hsb
  have hVa : imgVal ac ad an a = .agg #[ac, .int .i64 a.entry, .int .i64 a.room, ad, an] := rfl
  have hVb : imgVal bc bd bn b = .agg #[bc, .int .i64 b.entry, .int .i64 b.room, bd, bn] := rfl
  rw [hVa, hVb]
  clear hVa hVb
  go_enter Try.func33, Try.ntmps33
  go_wp2_with fail
  refine (validImage_c a ac ad an _ (HA.out.on HB0.out) HSa.out).mono ?_
  rintro e w1 ⟨rfl, hb1⟩
  have HB1 := hid (HB0.out.trans (hb1.mono HB0.out.size))
  have HX1 := hid (HX0.out.on hb1)
  have HY1 := hid (HY0.out.on hb1)
  have hz1 := hb1.size
  simp only [World.size_alloc] at hz1
  clear hb1
  cases hoa : imageOk a
  · have HOa := hid hoa
    clear hoa
    go_wp2_with fail
    go_ret
    exact ⟨bool_eq (by rw [imgSame, HOa.out]; rfl), HB1.out⟩
  have HOa := hid hoa
  clear hoa
  have y0 := HY1.out.cell 0
  have y1 := HY1.out.cell 1
  have y2 := HY1.out.cell 2
  have y3 := HY1.out.cell 3
  have y4 := HY1.out.cell 4
  simp at y0 y1 y2 y3 y4
  go_wp2_with fail
  refine (validImage_c b bc bd bn _ (HB.out.on HB1.out) HSb.out).mono ?_
  rintro e w2 ⟨rfl, hb2⟩
  have HB2 := hid (HB1.out.trans (hb2.mono HB1.out.size))
  have HX2 := hid (HX1.out.on hb2)
  have HY2 := hid (HY1.out.on hb2)
  have hz2 := hb2.size
  clear hb2 y0 y1 y2 y3 y4
  cases hob : imageOk b
  · have HOb := hid hob
    clear hob
    go_wp2_with fail
    go_ret
    exact ⟨bool_eq (by rw [imgSame, HOb.out, Bool.false_and, Bool.and_false]), HB2.out⟩
  have HOb := hid hob
  clear hob
  have HQ := hid (show imgSame a b = sameImg a b by rw [imgSame, HOa.out, HOb.out]; rfl)
  have x0 := HX2.out.cell 0
  have x1 := HX2.out.cell 1
  have x2 := HX2.out.cell 2
  have x3 := HX2.out.cell 3
  have x4 := HX2.out.cell 4
  have y0 := HY2.out.cell 0
  have y1 := HY2.out.cell 1
  have y2 := HY2.out.cell 2
  have y3 := HY2.out.cell 3
  have y4 := HY2.out.cell 4
  simp at x0 x1 x2 x3 x4 y0 y1 y2 y3 y4
  go_wp2_with fail
  refine (sSameImage_c a b ac ad an bc bd bn _ (HA.out.on HB2.out) (HB.out.on HB2.out) HSa.out HSb.out).mono ?_
  rintro e w3 ⟨rfl, hb3⟩
  have HB3 := hid (HB2.out.trans (hb3.mono HB2.out.size))
  clear hb3 x0 x1 x2 x3 x4 y0 y1 y2 y3 y4
  go_wp2_with fail
  go_ret
  exact ⟨bool_eq HQ.out.symm, HB3.out⟩
end Go.Proofs.Ytihhpgklpichgab.Im
