/- The exact law of TermVars: the walk. -/
import Derived.Test.YtlgnakhfkpjioaaDoorUz
import Derived.Test.YtlgnakhfkpjioaaDoorVa
set_option linter.unusedSimpArgs false
set_option linter.unusedVariables false
namespace Go.Proofs.YtlgnakhfkpjioaaDoor.Um
open Go.RowKit Pl Ft Mm In C2 Im

theorem markTerm_v {t : Tm} {x0 x1 : Int} {x2 : ByteArray} {lk : Nat} (hp : Pt t x0 x1 x2 lk) {n lo hi k : Nat} {v : Value} {w : World} (hown : KOwn w n lo hi v t.kids) (hhi : hi ≤ w.heap.size) (hk0 : 0 < k) (hkb : k + 3 * t.size ≤ 10000000) (hw : t.wide ≤ 1048576) :
    Calls Tryd.prog 23 #[.agg #[.int .i64 x0, .int .i64 x1, .string x2, v], .int .i64 k] w (MkPost n lo hi k v t.kids w) := by
  have HO := hid hown
  obtain ⟨sv, cv, rfl⟩ := hown.slice
  have HP := hid hp
  have HB0 := hid ((Below.refl w.heap.size w).alloc (Nat.le_refl _) (.cells #[.int .i64 x0, .int .i64 x1, .string x2, .slice sv t.kids.length cv] 29))
  have HSz := hid (size_eq t)
  have HW := hid (wide_eq t)
  clear hown hp
  obtain ⟨lk2, hlk2⟩ : ∃ l, t.kids.length = l := ⟨_, rfl⟩
  rw [hlk2] at HO HB0 HW ⊢
  have HLk := hid hlk2
  clear hlk2
  go_enter Tryd.func23, Tryd.ntmps23
  go_wp2_with fail
  refine (markTermS_c n lo hi k _ t.kids _ (HO.out.on HB0.out) (by have := HB0.out.size; omega) hk0 (by have := HSz.out; omega) (by have := HW.out; have := HLk.out; omega) (fun i hi => by have := wides_at t.kids i hi; have := HW.out; omega)).mono ?_
  rintro e w1 ⟨ks', k', rfl, h1, h2, h3, h4, h5, h6⟩
  have HR := hid (show k ≤ k' ∧ k' ≤ k + 3 * sizes t.kids ∧ ks'.length = t.kids.length ∧ Mk n k ks' k' ∧ KOwn w1 n lo hi (.slice sv lk2 cv) ks' ∧ Only (fun b => lo ≤ b ∧ b < hi) w w1 from ⟨h1, h2, h3, h4, h5, (Only.of_below HB0.out).trans h6⟩)
  clear h1 h2 h3 h4 h5 h6
  go_wp2_with fail
  go_ret
  exact ⟨ks', k', rfl, HR.out⟩
theorem sTermVars_v {t : Tm} {x0 x1 : Int} {x2 : ByteArray} {lk : Nat} (hp : Pt t x0 x1 x2 lk) {n : Nat} {kv : Value} {w : World} (hr : KRd w n kv t.kids) (hw : t.wide ≤ 1048576) :
    Calls Tryd.prog 25 #[.agg #[.int .i64 x0, .int .i64 x1, .string x2, kv]] w (SPost (if termOk t then varsT 14 t else []) w) := by
  rw [← hp.val]
  exact sTermVars_c n t kv w hr hw
theorem termVars_v {t : Tm} {x0 x1 : Int} {x2 : ByteArray} {lk : Nat} (hp : Pt t x0 x1 x2 lk) {n : Nat} {kv : Value} {w : World} (hr : KRd w n kv t.kids) (hw : t.wide ≤ 1048576) (hT : Tabs w) :
    Calls Tryd.prog 26 #[.agg #[.int .i64 x0, .int .i64 x1, .string x2, kv]] w (SPost (if termOk t then varsT 14 t else []) w) := by
  rw [← hp.val]
  exact termVars_c n t kv w hr hw hT
set_option maxRecDepth 100000 in
set_option maxHeartbeats 8000000 in
theorem exactTermVars_w (n : Nat) (t : Tm) (kv : Value) (w : World) (hr : KRd w n kv t.kids) (hl : Lim n t.kids) (ht : t.text.size ≤ 9223372036854775807) (hT : Tabs w) :
    Calls Tryd.prog 7 #[tmVal t kv] w fun e w' => e = .returned (.bool true) ∧ Below w.heap.size w w' := by
  have HR := hid hr
  have HL := hid hl
  have HTx := hid ht
  have HT := hid hT
  clear hr hl ht hT
  obtain ⟨x0, x1, x2, lk, hp⟩ := Pt.of t
  rw [hp.val]
  have HP := hid hp
  clear hp
  have HX0 := hid (Row.new w 24 #[.int .i64 x0, .int .i64 x1, .string x2, kv])
  have HB0 := hid ((Below.refl w.heap.size w).alloc (Nat.le_refl _) (.cells #[.int .i64 x0, .int .i64 x1, .string x2, kv] 24))
  go_enter Tryd.func7, Tryd.ntmps7
  go_wp2_with fail
  refine (szTerm_v HP.out (HR.out.on HB0.out) HL.out HTx.out (by omega) (by omega)).mono ?_
  rintro e w1 ⟨x, rfl, hx, hb1⟩
  have HB1 := hid (HB0.out.trans (hb1.mono HB0.out.size))
  have HX1 := hid (HX0.out.on hb1)
  clear hb1
  rcases hx with ⟨hwd, rfl⟩ | ⟨hwd, rfl⟩
  case inr =>
    go_wp2_with fail
    go_ret
    exact ⟨rfl, HB1.out⟩
  have HWd := hid (show t.wide ≤ 1048576 by omega)
  have hsub : 0 ≤ (1048576 : Int) - t.wide := by omega
  obtain ⟨z, hz⟩ : ∃ z : Int, (1048576 : Int) - t.wide = z := ⟨_, rfl⟩
  rw [hz] at hsub ⊢
  clear hz hwd
  obtain ⟨L, hL⟩ : ∃ l, (if termOk t then varsT 14 t else []) = l := ⟨_, rfl⟩
  have HLe := hid hL
  have HLl := hid (show L.length ≤ 1048576 by
    rw [← hL]
    by_cases hok : termOk t = true
    · rw [if_pos hok]
      have := vars_len 14 t; have := (termOk_bd hok).2; omega
    · rw [if_neg hok]; simp)
  have hll := HLl.out
  clear hL
  have d0 := HX1.out.cell 0
  have d1 := HX1.out.cell 1
  have d2 := HX1.out.cell 2
  have d3 := HX1.out.cell 3
  simp at d0 d1 d2 d3
  go_wp2_with fail
  refine (toTerm_v HP.out (HR.out.on HB1.out) HWd.out).mono ?_
  rintro e w2 ⟨a2, c2, rfl, hown2, hb2⟩
  have HO2 := hid hown2
  have HB2 := hid (HB1.out.trans (hb2.mono HB1.out.size))
  have HX2 := hid (HX1.out.on hb2)
  clear hown2 hb2 d0 d1 d2 d3
  go_wp2_with fail
  refine (sTermVars_v HP.out HO2.out.rd HWd.out).mono ?_
  rw [HLe.out]
  rintro e w3 ⟨v3, rfl, hown3, hb3⟩
  have HV3 := hid hown3
  have HB3 := hid (HB2.out.trans (hb3.mono HB2.out.size))
  have HX3 := hid (HX2.out.on hb3)
  have HV3lt := hid (fun g (hg : v3.ownBlock = some g) => (hown3.lt g hg).2)
  obtain ⟨s3, e3, hv⟩ := own_slice hown3
  subst hv
  clear hown3 hb3
  have d0 := HX3.out.cell 0
  have d1 := HX3.out.cell 1
  have d2 := HX3.out.cell 2
  have d3 := HX3.out.cell 3
  simp at d0 d1 d2 d3
  go_wp2_with fail
  refine (toTerm_v HP.out (HR.out.on HB3.out) HWd.out).mono ?_
  rintro e w4 ⟨a4, c4, rfl, hown4, hb4⟩
  have HO4 := hid hown4
  have HB4 := hid (HB3.out.trans (hb4.mono HB3.out.size))
  have HX4 := hid (HX3.out.on hb4)
  have HV4 := hid (own_on HV3.out hb4)
  have HZ4 := hid hb4.size
  clear hown4 hb4 d0 d1 d2 d3
  have hx4 := HX4.out.lt
  have HA5 := hid ((Below.refl w4.heap.size w4).alloc (Nat.le_refl _) (.cells #[.int .i64 x0, .int .i64 x1, .string x2, .slice a4 lk c4] 29))
  have HB5 := hid (HB4.out.trans (HA5.out.mono HB4.out.size))
  have HG5 := hid (Row.new w4 29 #[.int .i64 x0, .int .i64 x1, .string x2, .slice a4 lk c4])
  have HX5 := hid (HX4.out.on HA5.out)
  have HO5 := hid (HO4.out.on HA5.out)
  have HV5 := hid (own_on HV4.out HA5.out)
  go_wp2_with fail
  refine (termVars_v HP.out HO5.out.rd HWd.out (HT.out.on HB5.out)).mono ?_
  rw [HLe.out]
  rintro e w6 ⟨v6, rfl, hown6, hb6⟩
  have HG6 := hid (HG5.out.on hb6)
  have HX6 := hid (HX5.out.on hb6)
  have HO6 := hid (HO5.out.on hb6)
  have HV6 := hid (own_on HV5.out hb6)
  have HW6 := hid (own_mono hown6 (show w4.heap.size + 1 ≤ _ by simp))
  have HB6 := hid (HB5.out.trans (hb6.mono HB5.out.size))
  have HZ6 := hid hb6.size
  obtain ⟨s6, e6, hv⟩ := own_slice hown6
  subst hv
  clear hown6 hb6
  go_wp2_with fail
  refine (eqStringS_c L _ _ _ (SRd.of_own HW6.out) (SRd.of_own HV6.out) HLl.out).mono ?_
  rintro e w7 ⟨rfl, hb7⟩
  have HG7 := hid (HG6.out.on hb7)
  have HX7 := hid (HX6.out.on hb7)
  have HO7 := hid (HO6.out.on hb7)
  have HV7 := hid (own_on HV6.out hb7)
  have HW7 := hid (own_on HW6.out hb7)
  have HB7 := hid (HB6.out.trans (hb7.mono HB6.out.size))
  have HZ7 := hid (Nat.le_trans HZ6.out hb7.size)
  clear hb7
  have d0 := HX7.out.cell 0
  have d1 := HX7.out.cell 1
  have d2 := HX7.out.cell 2
  have d3 := HX7.out.cell 3
  simp at d0 d1 d2 d3
  have g0 := HG7.out.cell 0
  have g1 := HG7.out.cell 1
  have g2 := HG7.out.cell 2
  have g3 := HG7.out.cell 3
  simp at g0 g1 g2 g3
  have hg7 := HG7.out.lt
  have hx7 := HX7.out.lt
  go_upto_region 10 with fail
  go_cut [31] (fun s wx => s = .bool false ∧ Below w7.heap.size w7 wx)
  case first =>
    go_region_with (first
      | (go_at_call 14; refine (toTerm_v HP.out (HR.out.on HB7.out.drew) HWd.out).mono ?_; rintro e wd ⟨ad, cd, rfl, hownd, hbd⟩; have HOd := hid hownd; have HBd := hid hbd; have HYd := hid (HG7.out.drew.on hbd); have k0 := HYd.out.cell 0; have k1 := HYd.out.cell 1; have k2 := HYd.out.cell 2; have k3 := HYd.out.cell 3; simp at k0 k1 k2 k3; clear hownd hbd)
      | (go_at_call 16; refine (eqTerm_v HP.out (HO7.out.on ((Below.refl _ _).drew.trans HBd.out)).rd HOd.out.rd HWd.out).mono ?_; rintro e we ⟨rfl, hbe⟩))
    all_goals
      have HBe := hid (((Below.refl w7.heap.size w7).drew.trans HBd.out).trans (hbe.mono ((Below.refl w7.heap.size w7).drew.trans HBd.out).size))
      clear hbe
      go_wp2_with fail
      go_meet
      exact ⟨rfl, HBe.out⟩
  case rest =>
    obtain ⟨rfl, hbc⟩ := hcut
    have HG8 := hid (HG7.out.on hbc)
    have HX8 := hid (HX7.out.on hbc)
    have HO8 := hid (HO7.out.on hbc)
    have HV8 := hid (own_on HV7.out hbc)
    have HW8 := hid (own_on HW7.out hbc)
    have HB8 := hid (HB7.out.trans (hbc.mono HB7.out.size))
    have HZ8 := hid (Nat.le_trans HZ7.out hbc.size)
    clear hbc d0 d1 d2 d3 g0 g1 g2 g3
    have g0 := HG8.out.cell 0
    have g1 := HG8.out.cell 1
    have g2 := HG8.out.cell 2
    have g3 := HG8.out.cell 3
    simp at g0 g1 g2 g3
    have hs60 : t.size ≤ 1048577 := by have := size_wide t; have := HWd.out; omega
    go_wp2_with fail
    refine (markTerm_v HP.out HO8.out (by have := HZ8.out; simp at this; omega) (by omega) (by omega) HWd.out (k := 1)).mono ?_
    rintro e w9 ⟨ks9, k9, rfl, hk1, _, _, _, _, hon9⟩
    have HX9 := hid (row_only HX8.out (fun h => by have := HX3.out.lt; omega) hon9)
    have HV9 := hid (own_only HV8.out (fun g hg h => by have := HV3lt.out g hg; omega) hon9)
    have HW9 := hid (own_only HW8.out (fun g hg h => by have := (HW8.out.lt g hg).1; omega) hon9)
    have HB9 := hid (HB8.out.trans (hon9.below HB8.out.size (fun b hb => by have := HB3.out.size; omega)))
    have hk9 : 0 ≤ (k9 : Int) := by omega
    have HZ9 := hid (Nat.le_trans HZ8.out hon9.size)
    clear hon9 g0 g1 g2 g3
    go_wp2_with fail
    refine (eqStringS_c L _ _ _ (SRd.of_own HW9.out) (SRd.of_own HV9.out) HLl.out).mono ?_
    rintro e wa ⟨rfl, hba⟩
    have HXa := hid (HX9.out.on hba)
    have HVa := hid (own_on HV9.out hba)
    have HWa := hid (own_on HW9.out hba)
    have HBa := hid (HB9.out.trans (hba.mono HB9.out.size))
    have HZa := hid (Nat.le_trans HZ9.out hba.size)
    clear hba
    go_wp2_with fail
    refine (markStringS_c (w4.heap.size + 1) L _ _ HWa.out (by have := HZa.out; simp at this; omega) HLl.out).mono ?_
    rintro e wb ⟨rfl, hownb, hbb⟩
    have HWb := hid hownb
    have HVb := hid (own_below HVa.out (fun g hg => by have := HV3lt.out g hg; have := HZ4.out; omega) hbb)
    have HXb := hid (HXa.out.below hbb (by omega))
    have HBb := hid (HBa.out.trans (hbb.mono (by omega)))
    clear hownb hbb
    go_wp2_with fail
    refine (heldStringS_c L.length _ _ (by have h := SRd.of_own (xs := mkS L.length) (by rw [mkS_len]; exact HWb.out); exact h) HLl.out).mono ?_
    rintro e wc2 ⟨rfl, hbc2⟩
    have HWc := hid (own_on HWb.out hbc2)
    have HVc := hid (own_on HVb.out hbc2)
    have HXc := hid (HXb.out.on hbc2)
    have HBc := hid (HBb.out.trans (hbc2.mono HBb.out.size))
    clear hbc2
    have d0 := HXc.out.cell 0
    have d1 := HXc.out.cell 1
    have d2 := HXc.out.cell 2
    have d3 := HXc.out.cell 3
    simp at d0 d1 d2 d3
    go_wp2_with fail
    refine (toTerm_v HP.out (HR.out.on HBc.out) HWd.out).mono ?_
    rintro e wd ⟨ad, cd, rfl, hownd, hbd⟩
    have HOd := hid hownd
    have HWd2 := hid (own_on HWc.out hbd)
    have HVd := hid (own_on HVc.out hbd)
    have HBd := hid (HBc.out.trans (hbd.mono HBc.out.size))
    clear hownd hbd d0 d1 d2 d3
    go_wp2_with fail
    refine (termVars_v HP.out HOd.out.rd HWd.out (HT.out.on HBd.out)).mono ?_
    rw [HLe.out]
    rintro e we ⟨ve, rfl, howne, hbe⟩
    have HHe := hid howne
    have HWe := hid (own_on HWd2.out hbe)
    have HVe := hid (own_on HVd.out hbe)
    have HBe := hid (HBd.out.trans (hbe.mono HBd.out.size))
    obtain ⟨se, ce, hv⟩ := own_slice howne
    subst hv
    clear howne hbe
    go_wp2_with fail
    refine (eqStringS_c L _ _ _ (SRd.of_own HHe.out) (SRd.of_own HVe.out) HLl.out).mono ?_
    rintro e wf ⟨rfl, hbf⟩
    have HWf := hid (own_on HWe.out hbf)
    have HBf := hid (HBe.out.trans (hbf.mono HBe.out.size))
    clear hbf
    go_wp2_with fail
    refine (heldStringS_c L.length _ _ (by have h := SRd.of_own (xs := mkS L.length) (by rw [mkS_len]; exact HWf.out); exact h) HLl.out).mono ?_
    rintro e wg ⟨rfl, hbg⟩
    have HBg := hid (HBf.out.trans (hbg.mono HBf.out.size))
    clear hbg
    go_wp2_with fail
    go_ret
    exact ⟨rfl, HBg.out⟩
end Go.Proofs.YtlgnakhfkpjioaaDoor.Um
