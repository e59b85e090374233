/- The exact law of TermValue: the walk. -/
import Derived.Test.YtlgnakhfkpjioaaDoorUu
set_option linter.unusedSimpArgs false
set_option linter.unusedVariables false
namespace Go.Proofs.YtlgnakhfkpjioaaDoor.Um
open Go.RowKit Pl Ft Mm In C2 Im

theorem sTermValue_v {t : Tm} {x0 x1 : Int} {x2 : ByteArray} {lk : Nat} (hp : Pt t x0 x1 x2 lk) {vars : List Nm} {mem : List Int} {n : Nat} {kv vl vm : Value} {w : World} (hr : KRd w n kv t.kids) (hw : t.wide ≤ 1048576) (hvl : NRd w vl vars) (hvm : Rd w vm mem) (hlv : vars.length ≤ 1048576) (hlm : mem.length ≤ 1048576) (htx : ∀ x ∈ vars, x.text.size ≤ 1048576) :
    Calls Tryd.prog 33 #[.agg #[.int .i64 x0, .int .i64 x1, .string x2, kv], vl, vm] w fun e w' => e = .returned (memVal (termVal t vars mem)) ∧ Below w.heap.size w w' := by
  rw [← hp.val]
  exact sTermValue_c vars mem n t kv vl vm w hr hw hvl hvm hlv hlm htx
theorem termValue_v {t : Tm} {x0 x1 : Int} {x2 : ByteArray} {lk : Nat} (hp : Pt t x0 x1 x2 lk) {vars : List Nm} {mem : List Int} {n : Nat} {kv vl vm : Value} {w : World} (hr : KRd w n kv t.kids) (hw : t.wide ≤ 1048576) (hvl : NRd w vl vars) (hvm : Rd w vm mem) (hcap : CapOk vm) (hlv : vars.length ≤ 1048576) (hlm : mem.length ≤ 1048576) (htx : ∀ x ∈ vars, x.text.size ≤ 1048576) (hT : Tabs w) :
    Calls Tryd.prog 36 #[.agg #[.int .i64 x0, .int .i64 x1, .string x2, kv], vl, vm] w fun e w' => e = .returned (memVal (termVal t vars mem)) ∧ Below w.heap.size w w' := by
  rw [← hp.val]
  exact termValue_c vars mem n t kv vl vm w hr hw hvl hvm hcap hlv hlm htx hT
set_option maxRecDepth 100000 in
set_option maxHeartbeats 8000000 in
theorem exactTermValue_w (n : Nat) (t : Tm) (kv vl vm : Value) (vars : List Nm) (mem : List Int) (w : World) (hr : KRd w n kv t.kids) (hl : Lim n t.kids) (ht : t.text.size ≤ 9223372036854775807) (hvl : NRd w vl vars) (hvm : Rd w vm mem) (hnl : vars.length ≤ 9223372036854775807) (hnt : ∀ x ∈ vars, x.text.size ≤ 9223372036854775807) (hml : mem.length ≤ 9223372036854775807) (hT : Tabs w) :
    Calls Tryd.prog 9 #[tmVal t kv, vl, vm] w fun e w' => e = .returned (.bool true) ∧ Below w.heap.size w w' := by
  have HR := hid hr
  have HL := hid hl
  have HTx := hid ht
  have HVl := hid hvl
  have HVm := hid hvm
  have HNl := hid hnl
  have HNt := hid hnt
  have HT := hid hT
  obtain ⟨sl, cl, rfl, _⟩ := hvl
  obtain ⟨sm, cm, rfl, _⟩ := hvm
  clear hr hl ht hnt hT
  obtain ⟨x0, x1, x2, lk, hp⟩ := Pt.of t
  rw [hp.val]
  have HP := hid hp
  clear hp
  have HX0 := hid (Row.new w 24 #[.int .i64 x0, .int .i64 x1, .string x2, kv])
  have HB0 := hid ((Below.refl w.heap.size w).alloc (Nat.le_refl _) (.cells #[.int .i64 x0, .int .i64 x1, .string x2, kv] 24))
  by_cases hm20 : mem.length ≤ 1048576
  case neg =>
    go_enter Tryd.func9, Tryd.ntmps9
    go_wp2_with fail
    go_ret
    exact ⟨rfl, HB0.out⟩
  go_enter Tryd.func9, Tryd.ntmps9
  go_wp2_with fail
  refine (szTerm_v HP.out (HR.out.on HB0.out) HL.out HTx.out (by omega) (by omega)).mono ?_
  rintro e w1 ⟨x, rfl, hx, hb1⟩
  have HB1 := hid (HB0.out.trans (hb1.mono HB0.out.size))
  have HX1 := hid (HX0.out.on hb1)
  clear hb1
  rcases hx with ⟨hwd, rfl⟩ | ⟨hwd, rfl⟩
  case inr =>
    go_wp2_with fail
    go_ret
    exact ⟨rfl, HB1.out⟩
  have HWd := hid (show t.wide ≤ 1048576 by omega)
  have hsub : 0 ≤ (1048576 : Int) - t.wide := by omega
  have hsub2 : (1048576 : Int) - t.wide ≤ 1048576 := by omega
  obtain ⟨z, hz⟩ : ∃ z : Int, (1048576 : Int) - t.wide = z := ⟨_, rfl⟩
  rw [hz] at hsub hsub2 ⊢
  clear hz hwd
  go_wp2_with fail
  refine (Vr.szVarS_c vars _ z _ (HVl.out.on HB1.out) hsub hsub2 HNl.out HNt.out).mono ?_
  rintro e w2 ⟨x', rfl, hx1, hx0, hxp, hb2⟩
  have HB2 := hid (HB1.out.trans (hb2.mono HB1.out.size))
  have HX2 := hid (HX1.out.on hb2)
  have HPs := hid hxp
  clear hb2 hxp
  by_cases hx : 0 ≤ x'
  case neg =>
    go_wp2_with fail
    go_ret
    exact ⟨rfl, HB2.out⟩
  have HVt := hid (HPs.out hx).2
  have hv20 : vars.length ≤ 1048576 := by have := (HPs.out hx).1; omega
  have p0 := HX2.out.cell 0
  have p1 := HX2.out.cell 1
  have p2 := HX2.out.cell 2
  have p3 := HX2.out.cell 3
  simp at p0 p1 p2 p3
  go_wp2_with fail
  refine (toTerm_v HP.out (HR.out.on HB2.out) HWd.out).mono ?_
  rintro e w3 ⟨a3, c3, rfl, hown3, hb3⟩
  have HO3 := hid hown3
  have HB3 := hid (HB2.out.trans (hb3.mono HB2.out.size))
  have HX3 := hid (HX2.out.on hb3)
  clear hown3 hb3 p0 p1 p2 p3
  go_wp2_with fail
  refine (Vr.toVarS_c vars _ _ (HVl.out.on HB3.out) hv20).mono ?_
  rintro e w4 ⟨v4, rfl, hown4, hb4⟩
  have HO4 := hid hown4
  have HO3b := hid (HO3.out.on hb4)
  have HB4 := hid (HB3.out.trans (hb4.mono HB3.out.size))
  have HX4 := hid (HX3.out.on hb4)
  clear hown4 hb4
  go_wp2_with fail
  refine (toIntS_c mem _ _ (HVm.out.on HB4.out) hm20).mono ?_
  rintro e w5 ⟨v5, rfl, hown5, hb5⟩
  have HO5 := hid hown5
  have HO3c := hid (HO3b.out.on hb5)
  have HO4b := hid (own_on HO4.out hb5)
  have HB5 := hid (HB4.out.trans (hb5.mono HB4.out.size))
  have HX5 := hid (HX4.out.on hb5)
  clear hown5 hb5
  go_wp2_with fail
  refine (sTermValue_v HP.out HO3c.out.rd HWd.out (NRd.of_own HO4b.out) (Rd.of_own HO5.out) hv20 hm20 HVt.out).mono ?_
  rintro e w6 ⟨rfl, hb6⟩
  have HB6 := hid (HB5.out.trans (hb6.mono HB5.out.size))
  have HX6 := hid (HX5.out.on hb6)
  clear hb6
  obtain ⟨r, hr⟩ : ∃ r, termVal t vars mem = r := ⟨_, rfl⟩
  have HRr := hid hr
  obtain ⟨r1, hr1⟩ : ∃ x, r.getD 0 = x := ⟨_, rfl⟩
  obtain ⟨r2, hr2⟩ : ∃ x, r.isSome = x := ⟨_, rfl⟩
  have HMv := hid (show memVal (termVal t vars mem) = .tuple #[.int .i64 r1, .bool r2] by rw [hr, memVal, hr1, hr2])
  rw [HMv.out]
  clear hr hr1 hr2
  have p0 := HX6.out.cell 0
  have p1 := HX6.out.cell 1
  have p2 := HX6.out.cell 2
  have p3 := HX6.out.cell 3
  simp at p0 p1 p2 p3
  go_wp2_with fail
  refine (toTerm_v HP.out (HR.out.on HB6.out) HWd.out).mono ?_
  rintro e w7 ⟨a7, c7, rfl, hown7, hb7⟩
  have HO7 := hid hown7
  have HB7 := hid (HB6.out.trans (hb7.mono HB6.out.size))
  have HX7 := hid (HX6.out.on hb7)
  have hz7 := HX7.out.lt
  clear hown7 hb7 p0 p1 p2 p3
  have HA8 := hid ((Below.refl w7.heap.size w7).alloc (Nat.le_refl _) (.cells #[.int .i64 x0, .int .i64 x1, .string x2, .slice a7 lk c7] 29))
  have HB8 := hid (HB7.out.trans (HA8.out.mono HB7.out.size))
  have HX8 := hid (HX7.out.on HA8.out)
  have HY8 := hid (Row.new w7 29 #[.int .i64 x0, .int .i64 x1, .string x2, .slice a7 lk c7])
  have HO8 := hid (HO7.out.on HA8.out)
  go_wp2_with fail
  refine (Vr.toVarS_c vars _ _ (HVl.out.on HB8.out) hv20).mono ?_
  rintro e w9 ⟨v9, rfl, hown9, hb9⟩
  have HO9 := hid hown9
  have HO8b := hid (HO8.out.on hb9)
  have HB9 := hid (HB8.out.trans (hb9.mono HB8.out.size))
  have HX9 := hid (HX8.out.on hb9)
  have HY9 := hid (HY8.out.on hb9)
  clear hown9 hb9
  go_wp2_with fail
  refine (toIntS_c mem _ _ (HVm.out.on HB9.out) hm20).mono ?_
  rintro e wa ⟨va, rfl, howna, hba⟩
  have HOa := hid howna
  have HO8c := hid (HO8b.out.on hba)
  have HO9b := hid (own_on HO9.out hba)
  have HBa := hid (HB9.out.trans (hba.mono HB9.out.size))
  have HXa := hid (HX9.out.on hba)
  have HYa := hid (HY9.out.on hba)
  clear howna hba
  have q0 := HYa.out.cell 0
  have q1 := HYa.out.cell 1
  have q2 := HYa.out.cell 2
  have q3 := HYa.out.cell 3
  simp at q0 q1 q2 q3
  go_wp2_with fail
  refine (termValue_v HP.out HO8c.out.rd HWd.out (NRd.of_own HO9b.out) (Rd.of_own HOa.out) (own_cap HOa.out) hv20 hm20 HVt.out (HT.out.on HBa.out)).mono ?_
  rintro e wb ⟨rfl, hbb⟩
  have HOb := hid (own_on HOa.out hbb)
  have HO8d := hid (HO8c.out.on hbb)
  have HO9c := hid (own_on HO9b.out hbb)
  have HBb := hid (HBa.out.trans (hbb.mono HBa.out.size))
  have HXb := hid (HXa.out.on hbb)
  have HYb := hid (HYa.out.on hbb)
  have hzb := HYb.out.lt
  have hzc := HXb.out.lt
  rw [HMv.out]
  clear hbb q0 q1 q2 q3
  have p0 := HXb.out.cell 0
  have p1 := HXb.out.cell 1
  have p2 := HXb.out.cell 2
  have p3 := HXb.out.cell 3
  simp at p0 p1 p2 p3
  have q0 := HYb.out.cell 0
  have q1 := HYb.out.cell 1
  have q2 := HYb.out.cell 2
  have q3 := HYb.out.cell 3
  simp at q0 q1 q2 q3
  have e1 : (r1 != r1) = false := by simp
  have e2 : (r2 != r2) = false := by simp
  go_upto_region 17 with fail
  go_cut [63] (fun s wx => s = .bool false ∧ Below wb.heap.size wb wx)
  case first =>
    go_region_with (first
      | (go_at_call 14; refine (toTerm_v HP.out (HR.out.on HBb.out.drew) HWd.out).mono ?_; rintro e wd ⟨ad, cd, rfl, hownd, hbd⟩; have HOd := hid hownd; have HBd := hid hbd; have HYd := hid (HYb.out.drew.on hbd); have k0 := HYd.out.cell 0; have k1 := HYd.out.cell 1; have k2 := HYd.out.cell 2; have k3 := HYd.out.cell 3; simp at k0 k1 k2 k3; clear hownd hbd)
      | (go_at_call 16; refine (eqTerm_v HP.out (HO8d.out.on ((Below.refl _ _).drew.trans HBd.out)).rd HOd.out.rd HWd.out).mono ?_; rintro e we ⟨rfl, hbe⟩))
    all_goals
      have HBe := hid (((Below.refl wb.heap.size wb).drew.trans HBd.out).trans (hbe.mono ((Below.refl wb.heap.size wb).drew.trans HBd.out).size))
      clear hbe
      go_wp2_with fail
      go_meet
      exact ⟨rfl, HBe.out⟩
  case rest =>
    obtain ⟨rfl, hbc⟩ := hcut
    have HBc := hid (HBb.out.trans (hbc.mono HBb.out.size))
    have HOc := hid (own_on HOb.out hbc)
    have HO9d := hid (own_on HO9c.out hbc)
    clear hbc p0 p1 p2 p3 q0 q1 q2 q3 e1 e2
    go_wp2_with fail
    refine (Vr.toVarS_c vars _ _ (HVl.out.on HBc.out) hv20).mono ?_
    rintro e wf ⟨vf, rfl, hownf, hbf⟩
    have HOf := hid hownf
    have HOg := hid (own_on HO9d.out hbf)
    have HOh := hid (own_on HOc.out hbf)
    have HBf := hid (HBc.out.trans (hbf.mono HBc.out.size))
    clear hownf hbf
    go_wp2_with fail
    refine (Vr.eqVarS_c vars _ _ _ (NRd.of_own HOg.out) (NRd.of_own HOf.out) hv20).mono ?_
    rintro e wg ⟨rfl, hbg⟩
    have HOi := hid (own_on HOh.out hbg)
    have HBg := hid (HBf.out.trans (hbg.mono HBf.out.size))
    clear hbg
    go_wp2_with fail
    refine (toIntS_c mem _ _ (HVm.out.on HBg.out) hm20).mono ?_
    rintro e wh ⟨vh, rfl, hownh, hbh⟩
    have HOj := hid hownh
    have HOk := hid (own_on HOi.out hbh)
    have HBh := hid (HBg.out.trans (hbh.mono HBg.out.size))
    clear hownh hbh
    go_wp2_with fail
    refine (eqIntS_b mem _ _ _ (Rd.of_own HOk.out) (Rd.of_own HOj.out) (by omega)).mono ?_
    rintro e wi ⟨rfl, hbi⟩
    have HBi := hid (HBh.out.trans (hbi.mono HBh.out.size))
    clear hbi
    go_wp2_with fail
    go_ret
    exact ⟨rfl, HBi.out⟩
end Go.Proofs.YtlgnakhfkpjioaaDoor.Um
