/- The exact law of TermFold: the walk. -/
import Derived.Test.YtffibmlgdacafaaDoorBase
import Derived.Test.YtffibmlgdacafaaDoorWp
set_option linter.unusedSimpArgs false
set_option linter.unusedVariables false
namespace Go.Proofs.YtffibmlgdacafaaDoor.Um
open Go.RowKit Pl Ft Mm In C2 Im

theorem termFold_v {a : Tm} {x0 x1 : Int} {x2 : ByteArray} {la : Nat} (hp : Pt a x0 x1 x2 la) {z0 z1 : Int} {z2 : ByteArray} {lz : Nat} (hz : Pt (foldR a) z0 z1 z2 lz) {ok : Bool} (hok : termOk a = ok) {n : Nat} {va : Value} {w : World} (ha : KRd w n va a.kids) (hw : a.wide ≤ 1048576) (hT : Tabs w) :
    Calls Tryd.prog 11 #[.agg #[.int .i64 x0, .int .i64 x1, .string x2, va]] w fun e w' => ∃ s k, e = .returned (.tuple #[.agg #[.int .i64 z0, .int .i64 z1, .string z2, .slice s lz k], .bool ok]) ∧ KOwn w' 14 w.heap.size w'.heap.size (.slice s lz k) (foldR a).kids ∧ Below w.heap.size w w' := by
  subst hok
  rw [← hp.val]
  refine (termFold_c n a va w ha hw hT).mono ?_
  rintro e w' ⟨v, rfl, hown, hbl⟩
  obtain ⟨s, k, rfl⟩ := hown.slice
  rw [hz.l] at hown ⊢
  exact ⟨s, k, by rw [hz.val], hown, hbl⟩
theorem sTermFold_v {a : Tm} {x0 x1 : Int} {x2 : ByteArray} {la : Nat} (hp : Pt a x0 x1 x2 la) {z0 z1 : Int} {z2 : ByteArray} {lz : Nat} (hz : Pt (foldR a) z0 z1 z2 lz) {ok : Bool} (hok : termOk a = ok) {n : Nat} {va : Value} {w : World} (ha : KRd w n va a.kids) (hw : a.wide ≤ 1048576) :
    Calls Tryd.prog 9 #[.agg #[.int .i64 x0, .int .i64 x1, .string x2, va]] w fun e w' => ∃ s k, e = .returned (.tuple #[.agg #[.int .i64 z0, .int .i64 z1, .string z2, .slice s lz k], .bool ok]) ∧ KP (fun b => w.heap.size ≤ b) w' 14 (.slice s lz k) (foldR a).kids ∧ Below w.heap.size w w' := by
  subst hok
  rw [← hp.val]
  refine (sTermFold_c n a va w ha hw).mono ?_
  rintro e w' ⟨v, rfl, hrd, hbl⟩
  obtain ⟨s, k, rfl⟩ := hrd.slice
  rw [hz.l] at hrd ⊢
  exact ⟨s, k, by rw [hz.val], hrd, hbl⟩
theorem heldTerm_v {t : Tm} {x0 x1 : Int} {x2 : ByteArray} {lk : Nat} (hp : Pt t x0 x1 x2 lk) {n k k' : Nat} {kv : Value} {w : World} {ks : List Tm} (hr : KRd w n kv ks) (hm : Mk n k ks k') (h0 : 0 < k) (hk : k' ≤ 10000000) :
    Calls Tryd.prog 14 #[.agg #[.int .i64 x0, .int .i64 x1, .string x2, kv], .int .i64 k] w fun e w' => e = .returned (.int .i64 k') ∧ Below w.heap.size w w' :=
  heldTerm_c n k k' (.mk x0 x1 x2 ks) kv w hr hm h0 hk
theorem fold_r60 (a : Tm) : (foldR a).size ≤ 60 ∧ (foldR a).wide ≤ 1200 := by
  unfold foldR
  split
  · rename_i h
    obtain ⟨hs, hz⟩ := termOk_bd h
    obtain ⟨h1, h2⟩ := fold_keep 14 a hs
    have := shape_wide 14 _ h1
    exact ⟨by omega, by omega⟩
  · exact ⟨by rw [size_eq]; decide, by rw [wide_eq]; simp [tz, Tm.kids, Tm.text, wides_nil, ByteArray.size]⟩
set_option maxRecDepth 100000 in
set_option maxHeartbeats 8000000 in
theorem exactTermFold_w (n : Nat) (a : Tm) (va : Value) (w : World) (ha : KRd w n va a.kids) (hla : Lim n a.kids) (hta : a.text.size ≤ 9223372036854775807) (hT : Tabs w) :
    Calls Tryd.prog 3 #[tmVal a va] w fun e w' => e = .returned (.bool true) ∧ Below w.heap.size w w' := by
  have HA := hid ha
  have HLa := hid hla
  have HTa := hid hta
  have HT := hid hT
  clear ha hla hta hT
  obtain ⟨x0, x1, x2, la, hp⟩ := Pt.of a
  rw [hp.val]
  have HP := hid hp
  clear hp
  have HB0 := hid ((Below.refl w.heap.size w).alloc (Nat.le_refl _) (.cells #[.int .i64 x0, .int .i64 x1, .string x2, va] 24))
  have HX0 := hid (Row.new w 24 #[.int .i64 x0, .int .i64 x1, .string x2, va])
  go_enter Tryd.func3, Tryd.ntmps3
  go_wp2_with fail
  refine (szTerm_v HP.out (HA.out.on HB0.out) HLa.out HTa.out (by omega) (by omega)).mono ?_
  rintro e w1 ⟨x, rfl, hx, hb1⟩
  have HB1 := hid (HB0.out.trans (hb1.mono HB0.out.size))
  have HX1 := hid (HX0.out.on hb1)
  clear hb1
  rcases hx with ⟨hwd, rfl⟩ | ⟨hwd, rfl⟩
  case inr =>
    go_wp2_with fail
    go_ret
    exact ⟨rfl, HB1.out⟩
  have HWa := hid (show a.wide ≤ 1048576 by omega)
  have hsub : 0 ≤ (1048576 : Int) - a.wide := by omega
  obtain ⟨z, hz⟩ : ∃ z : Int, (1048576 : Int) - a.wide = z := ⟨_, rfl⟩
  rw [hz] at hsub ⊢
  clear hz hwd
  have HR60 := hid (fold_r60 a)
  obtain ⟨R, hR⟩ : ∃ r, foldR a = r := ⟨_, rfl⟩
  obtain ⟨ok, hok⟩ : ∃ r, termOk a = r := ⟨_, rfl⟩
  rw [hR] at HR60
  obtain ⟨z0, z1, z2, lz, hpr⟩ := Pt.of R
  have HPr := hid hpr
  have HCi := hid (fun (wx : World) (n1 : Nat) (sa : Value) (h1 : KRd wx n1 sa a.kids) (h3 : Tabs wx) => termFold_v HP.out (hR ▸ hpr) hok h1 HWa.out h3)
  have HCs := hid (fun (wx : World) (n1 : Nat) (sa : Value) (h1 : KRd wx n1 sa a.kids) => sTermFold_v HP.out (hR ▸ hpr) hok h1 HWa.out)
  rw [hR] at HCi HCs
  clear hpr hR hok
  have d0 := HX1.out.cell 0
  have d1 := HX1.out.cell 1
  have d2 := HX1.out.cell 2
  have d3 := HX1.out.cell 3
  simp at d0 d1 d2 d3
  go_wp2_with fail
  refine (toTerm_v HP.out (HA.out.on HB1.out) HWa.out).mono ?_
  rintro e w2 ⟨a2, c2, rfl, hown2, hb2⟩
  have HB2 := hid (HB1.out.trans (hb2.mono HB1.out.size))
  have HX2 := hid (HX1.out.on hb2)
  have HO0 := hid hown2
  clear hown2 hb2 d0 d1 d2 d3
  go_wp2_with fail
  refine (HCs.out _ _ _ HO0.out.rd).mono ?_
  rintro e wz ⟨s8, c8, rfl, hkp, hbz⟩
  have HBz := hid (HB2.out.trans (hbz.mono HB2.out.size))
  have HXz := hid (HX2.out.on hbz)
  have HKz := hid hkp.rd
  clear hkp hbz HO0 HCs
  have hal := (Below.refl wz.heap.size wz).alloc (Nat.le_refl _) (.cells #[.int .i64 z0, .int .i64 z1, .string z2, .slice s8 lz c8] 28)
  have HG := hid (Row.new wz 28 #[.int .i64 z0, .int .i64 z1, .string z2, .slice s8 lz c8])
  have HB3 := hid (HBz.out.trans (hal.mono HBz.out.size))
  have HX3 := hid (HXz.out.on hal)
  have HKd := hid (HKz.out.on hal)
  clear hal HKz HXz HX2 HX1 HX0 HB2 HB1 HB0
  have hxz := HX3.out.lt
  have d0 := HX3.out.cell 0
  have d1 := HX3.out.cell 1
  have d2 := HX3.out.cell 2
  have d3 := HX3.out.cell 3
  simp at d0 d1 d2 d3
  go_wp2_with fail
  generalize hw3 : wz.alloc (.cells #[.int .i64 z0, .int .i64 z1, .string z2, .slice s8 lz c8] 28) = w3 at HG HB3 HX3 HKd ⊢
  obtain ⟨g, hg⟩ : ∃ q, wz.heap.size = q := ⟨_, rfl⟩
  rw [hg] at HG
  (try rw [hg])
  clear hw3 hg HBz hxz d0 d1 d2 d3
  refine (toTerm_v HP.out (HA.out.on HB3.out) HWa.out).mono ?_
  rintro e w4 ⟨a4, c4, rfl, hown4, hb4⟩
  have HO1 := hid hown4
  have HP4 := hid hb4
  have HB4 := hid (HB3.out.trans (hb4.mono HB3.out.size))
  clear hown4 hb4
  have HA5 := hid ((Below.refl w4.heap.size w4).alloc (Nat.le_refl _) (.cells #[.int .i64 x0, .int .i64 x1, .string x2, .slice a4 la c4] 28))
  have HB7 := hid (HB4.out.trans (HA5.out.mono HB4.out.size))
  have HP7 := hid (HP4.out.trans (HA5.out.mono HP4.out.size))
  have HG7 := hid (Row.new w4 28 #[.int .i64 x0, .int .i64 x1, .string x2, .slice a4 la c4])
  have HO17 := hid (HO1.out.on HA5.out)
  go_wp2_with fail
  refine (HCi.out _ _ _ HO17.out.rd (HT.out.on HB7.out)).mono ?_
  rintro e w8 ⟨s9, c9, rfl, hown8, hb8⟩
  have HO3 := hid hown8
  have HO18 := hid (HO17.out.on hb8)
  have HG8 := hid (HG7.out.on hb8)
  have HP8 := hid (HP7.out.trans (hb8.mono HP7.out.size))
  have HB8 := hid (HB7.out.trans (hb8.mono HB7.out.size))
  have HZ8 := hid hb8.size
  have HGw8 := hid ((HG.out.below HP8.out HG.out.lt))
  have hgw8 := HGw8.out.lt
  clear hown8 hb8
  have HA9 := hid ((Below.refl w8.heap.size w8).alloc (Nat.le_refl _) (.cells #[.int .i64 z0, .int .i64 z1, .string z2, .slice s9 lz c9] 28))
  have HB9 := hid (HB8.out.trans (HA9.out.mono HB8.out.size))
  have HP9 := hid (HP8.out.trans (HA9.out.mono HP8.out.size))
  have HI9 := hid (Row.new w8 28 #[.int .i64 z0, .int .i64 z1, .string z2, .slice s9 lz c9])
  have HG9 := hid (HG8.out.on HA9.out)
  have HO19 := hid (HO18.out.on HA9.out)
  have HO39 := hid (HO3.out.on HA9.out)
  have v0 := HGw8.out.cell 0
  have v1 := HGw8.out.cell 1
  have v2 := HGw8.out.cell 2
  have v3 := HGw8.out.cell 3
  simp at v0 v1 v2 v3
  go_wp2_with fail
  refine (eqTerm_v HPr.out (n := 14) HO39.out.rd (HKd.out.on HP9.out) (by have := HR60.out.2; omega)).mono ?_
  rintro e w10 ⟨rfl, hba⟩
  have HIa := hid (HI9.out.on hba)
  have HGa := hid (HG9.out.on hba)
  have HO1a := hid (HO19.out.on hba)
  have HO3a := hid (HO39.out.on hba)
  have HBa := hid (HB9.out.trans (hba.mono HB9.out.size))
  have HPa := hid (HP9.out.trans (hba.mono HP9.out.size))
  have HZa := hid hba.size
  clear hba v0 v1 v2 v3
  have HXa := hid (HX3.out.below HPa.out HX3.out.lt)
  have d0 := HXa.out.cell 0
  have d1 := HXa.out.cell 1
  have d2 := HXa.out.cell 2
  have d3 := HXa.out.cell 3
  have g0 := HGa.out.cell 0
  have g1 := HGa.out.cell 1
  have g2 := HGa.out.cell 2
  have g3 := HGa.out.cell 3
  simp at d0 d1 d2 d3 g0 g1 g2 g3
  have hga := HGa.out.lt
  have hxa := HXa.out.lt
  go_upto_region 10 with fail
  go_cut [45] (fun s wx => s = .bool false ∧ Below w10.heap.size w10 wx)
  case first =>
    go_region_with (first
      | (go_at_call 10; refine (toTerm_v HP.out (HA.out.on HBa.out.drew) HWa.out).mono ?_; rintro e wd ⟨ad, cd, rfl, hownd, hbd⟩; have HOd := hid hownd; have HBd := hid hbd; have HYd := hid (HGa.out.drew.on hbd); have k0 := HYd.out.cell 0; have k1 := HYd.out.cell 1; have k2 := HYd.out.cell 2; have k3 := HYd.out.cell 3; simp at k0 k1 k2 k3; clear hownd hbd)
      | (go_at_call 12; refine (eqTerm_v HP.out (HO1a.out.on ((Below.refl _ _).drew.trans HBd.out)).rd HOd.out.rd HWa.out).mono ?_; rintro e we ⟨rfl, hbe⟩))
    all_goals
      have HBe := hid (((Below.refl w10.heap.size w10).drew.trans HBd.out).trans (hbe.mono ((Below.refl w10.heap.size w10).drew.trans HBd.out).size))
      clear hbe
      go_wp2_with fail
      go_meet
      exact ⟨rfl, HBe.out⟩
  case rest =>
  obtain ⟨rfl, hbb⟩ := hcut
  generalize wc = w12 at hbb ⊢
  have HIc := hid (HIa.out.on hbb)
  have HGc := hid (HGa.out.on hbb)
  have HO1c := hid (HO1a.out.on hbb)
  have HO3c := hid (HO3a.out.on hbb)
  have HBc := hid (HBa.out.trans (hbb.mono HBa.out.size))
  have HPc := hid (HPa.out.trans (hbb.mono HPa.out.size))
  have HZc := hid hbb.size
  clear hbb d0 d1 d2 d3 g0 g1 g2 g3 hga hxa
  have g0 := HGc.out.cell 0
  have g1 := HGc.out.cell 1
  have g2 := HGc.out.cell 2
  have g3 := HGc.out.cell 3
  simp at g0 g1 g2 g3
  have HSza := hid (show a.size ≤ 1048577 by have := size_wide a; have := HWa.out; omega)
  have HN := hid (show w3.heap.size ≤ w4.heap.size ∧ w4.heap.size + 1 ≤ w8.heap.size ∧ w8.heap.size + 1 ≤ w12.heap.size by
    have h1 := HP4.out.size
    have h3 := HZ8.out
    have h4 := HZa.out
    have h6 := HZc.out
    simp only [World.size_alloc] at h3 h4
    omega)
  go_wp2_with fail
  refine (markTerm_v HP.out HO1c.out (by have := HN.out; omega) (by omega) (by have := HSza.out; omega) HWa.out (k := 1)).mono ?_
  rintro e w14 ⟨ks9, k9, rfl, hk1, hk2, _, _, _, hon⟩
  have HIe := hid (row_only HIc.out (fun h => by have := HN.out; omega) hon)
  have HO3e := hid (HO3c.out.only hon (fun b h1 h2 h3 => by have := HN.out; simp only [World.size_alloc] at h1; omega))
  have HBe := hid (HBc.out.trans (hon.below HBc.out.size (fun b hb => by have := HB3.out.size; have h1 := hb.1; omega)))
  have HPe := hid (HPc.out.trans (hon.below HPc.out.size (fun b hb => hb.1)))
  have HZe := hid hon.size
  have hk9 : 0 ≤ (k9 : Int) := by omega
  have HGwe := hid (HG.out.below HPe.out HG.out.lt)
  clear hon g0 g1 g2 g3 hk1 hk2
  have i0 := HIe.out.cell 0
  have i1 := HIe.out.cell 1
  have i2 := HIe.out.cell 2
  have i3 := HIe.out.cell 3
  have v0 := HGwe.out.cell 0
  have v1 := HGwe.out.cell 1
  have v2 := HGwe.out.cell 2
  have v3 := HGwe.out.cell 3
  simp at i0 i1 i2 i3 v0 v1 v2 v3
  go_wp2_with fail
  refine (eqTerm_v HPr.out (n := 14) HO3e.out.rd (HKd.out.on HPe.out) (by have := HR60.out.2; omega)).mono ?_
  rintro e w15 ⟨rfl, hbf⟩
  have HIf := hid (HIe.out.on hbf)
  have HO3f := hid (HO3e.out.on hbf)
  have HBf := hid (HBe.out.trans (hbf.mono HBe.out.size))
  have HPf := hid (HPe.out.trans (hbf.mono HPe.out.size))
  have HZf := hid hbf.size
  clear hbf i0 i1 i2 i3 v0 v1 v2 v3
  have i0 := HIf.out.cell 0
  have i1 := HIf.out.cell 1
  have i2 := HIf.out.cell 2
  have i3 := HIf.out.cell 3
  simp at i0 i1 i2 i3
  go_wp2_with fail
  refine (markTerm_v HPr.out HO3f.out (by have := HN.out; have := HZe.out; have := HZf.out; omega) (by omega) (by have := HR60.out.1; omega) (by have := HR60.out.2; omega) (k := 1)).mono ?_
  rintro e w16 ⟨ks, m, rfl, hm1, hm2, hml, hmk, howng, hon⟩
  have HIg := hid (row_only HIf.out (fun h => by omega) hon)
  have HMk := hid hmk
  have HOg := hid howng
  have HBg := hid (HBf.out.trans (hon.below HBf.out.size (fun b hb => by have := HB3.out.size; have := HN.out; have h1 := hb.1; simp only [World.size_alloc] at h1; omega)))
  have HPg := hid (HPf.out.trans (hon.below HPf.out.size (fun b hb => by have := HN.out; have h1 := hb.1; simp only [World.size_alloc] at h1; omega)))
  have HMm := hid (show m ≤ 10000 by have := size_eq R; have := HR60.out.1; omega)
  have hm0 : 0 < (m : Int) := by omega
  clear hon hmk howng i0 i1 i2 i3 hm1 hm2 hml
  have i0 := HIg.out.cell 0
  have i1 := HIg.out.cell 1
  have i2 := HIg.out.cell 2
  have i3 := HIg.out.cell 3
  simp at i0 i1 i2 i3
  go_wp2_with fail
  refine (heldTerm_v (n := 14) (lk := 0) (t := .mk z0 z1 z2 []) ⟨rfl, rfl, rfl, rfl⟩ HOg.out.rd HMk.out (by omega) (by have := HMm.out; omega) (k := 1)).mono ?_
  rintro e w17 ⟨rfl, hbh⟩
  have HIh := hid (HIg.out.on hbh)
  have HOh := hid (HOg.out.on hbh)
  have HBh := hid (HBg.out.trans (hbh.mono HBg.out.size))
  have HPh := hid (HPg.out.trans (hbh.mono HPg.out.size))
  have HXh := hid (HX3.out.below HPh.out HX3.out.lt)
  clear hbh i0 i1 i2 i3
  have d0 := HXh.out.cell 0
  have d1 := HXh.out.cell 1
  have d2 := HXh.out.cell 2
  have d3 := HXh.out.cell 3
  simp at d0 d1 d2 d3
  go_wp2_with fail
  refine (toTerm_v HP.out (HA.out.on HBh.out) HWa.out).mono ?_
  rintro e w18 ⟨a8, c18, rfl, hown8, hbi⟩
  have HBi := hid (HBh.out.trans (hbi.mono HBh.out.size))
  have HPi := hid (HPh.out.trans (hbi.mono HPh.out.size))
  have HOi := hid (HOh.out.on hbi)
  have HIi := hid (HIh.out.on hbi)
  have HO8 := hid hown8
  clear hown8 hbi d0 d1 d2 d3
  go_wp2_with fail
  refine (HCi.out _ _ _ HO8.out.rd (HT.out.on HBi.out)).mono ?_
  rintro e w19 ⟨sh, ch, rfl, hownh, hbj⟩
  have HBj := hid (HBi.out.trans (hbj.mono HBi.out.size))
  have HPj := hid (HPi.out.trans (hbj.mono HPi.out.size))
  have HOj := hid (HOi.out.on hbj)
  have HIj := hid (HIi.out.on hbj)
  have HKj := hid hownh.rd
  have HGwj := hid (HG.out.below HPj.out HG.out.lt)
  have hgwj := HGwj.out.lt
  clear hownh hbj
  have HAk := hid ((Below.refl w19.heap.size w19).alloc (Nat.le_refl _) (.cells #[.int .i64 z0, .int .i64 z1, .string z2, .slice sh lz ch] 28))
  have HBk := hid (HBj.out.trans (HAk.out.mono HBj.out.size))
  have HPk := hid (HPj.out.trans (HAk.out.mono HPj.out.size))
  have HOk := hid (HOj.out.on HAk.out)
  have HIk := hid (HIj.out.on HAk.out)
  have HKk := hid (HKj.out.on HAk.out)
  have v0 := HGwj.out.cell 0
  have v1 := HGwj.out.cell 1
  have v2 := HGwj.out.cell 2
  have v3 := HGwj.out.cell 3
  simp at v0 v1 v2 v3
  go_wp2_with fail
  refine (eqTerm_v HPr.out (n := 14) HKk.out (HKd.out.on HPk.out) (by have := HR60.out.2; omega)).mono ?_
  rintro e w20 ⟨rfl, hbl⟩
  have HIl := hid (HIk.out.on hbl)
  have HOl := hid (HOk.out.on hbl)
  have HBl := hid (HBk.out.trans (hbl.mono HBk.out.size))
  clear hbl v0 v1 v2 v3
  have i0 := HIl.out.cell 0
  have i1 := HIl.out.cell 1
  have i2 := HIl.out.cell 2
  have i3 := HIl.out.cell 3
  simp at i0 i1 i2 i3
  go_wp2_with fail
  refine (heldTerm_v (n := 14) (lk := 0) (t := .mk z0 z1 z2 []) ⟨rfl, rfl, rfl, rfl⟩ HOl.out.rd HMk.out (by omega) (by have := HMm.out; omega) (k := 1)).mono ?_
  rintro e w21 ⟨rfl, hbm⟩
  have HBm := hid (HBl.out.trans (hbm.mono HBl.out.size))
  clear hbm i0 i1 i2 i3
  go_wp2_with fail
  go_ret
  exact ⟨rfl, HBm.out⟩
end Go.Proofs.YtffibmlgdacafaaDoor.Um
