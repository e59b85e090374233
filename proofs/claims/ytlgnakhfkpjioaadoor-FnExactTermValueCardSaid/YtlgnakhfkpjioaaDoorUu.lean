/- validMem, TermValue of the model. -/
import Derived.Test.YtlgnakhfkpjioaaDoorUt
set_option linter.unusedSimpArgs false
set_option linter.unusedVariables false
namespace Go.Proofs.YtlgnakhfkpjioaaDoor.Um
open Go.RowKit Pl Ft Mm In C2 Im

set_option maxRecDepth 100000 in
set_option maxHeartbeats 4000000 in
theorem validMem_c (l : List Nm) (mem : List Int) (v vm : Value) (w : World) (hr : NRd w v l) (hm : Rd w vm mem) (hl : l.length ≤ 1048576) (hlm : mem.length ≤ 1048576) (ht : ∀ x ∈ l, x.text.size ≤ 1048576) :
    Calls Tryd.prog 67 #[v, vm] w fun e w' => e = .returned (.bool (envOk l mem)) ∧ Below w.heap.size w w' := by
  have HVm := hid hm
  obtain ⟨sm, cm, rfl, _⟩ := hm
  obtain ⟨a, cap, rfl, ha⟩ := hr
  have HA := hid ha
  have HTx := hid ht
  clear ha ht
  go_enter Tryd.func67, Tryd.ntmps67
  go_wp2_with fail
  go_loopw [5] (fun y wr => ∃ k : Nat, y = .int .i64 k ∧ k ≤ l.length ∧ (l.take k).all varOk = true ∧ Below w.heap.size w wr) (fun y _ => l.length - (intOf y).toNat)
  case atStart => exact ⟨0, rfl, by omega, rfl, Below.refl _ _⟩
  case round =>
    obtain ⟨k, rfl, hk, hall, hbel⟩ := hrel
    have HAll := hid hall
    have HBe := hid hbel
    have hz := hbel.size
    clear hall
    by_cases hlt : k < l.length
    · rcases HA.out with h | ⟨g, o, rfl, hg, hc⟩
      · subst h; simp at hlt
      obtain ⟨c0, c1⟩ := hc k hlt
      have q0 := (hbel.cell (p := ⟨g, o + k * 2, none⟩) hg).trans c0
      have q1 := (hbel.cell (p := ⟨g, o + k * 2 + 1, none⟩) hg).trans c1
      have HC1 := hid c1
      have hgd : l.getD k .none = l[k] := by simp [hlt]
      have HT := hid (show (l.take (k + 1)).all varOk = ((l.take k).all varOk && varOk l[k]) from by rw [List.take_succ_eq_append_getElem hlt, List.all_append]; simp)
      have HNo := hid (show varOk l[k] = false → envOk l mem = false from fun h => by
        have : l.all varOk = false := by rw [List.all_eq_false]; exact ⟨l[k], List.getElem_mem hlt, by rw [h]; decide⟩
        rw [envOk, this]; rfl)
      have HTs := hid (HTx.out l[k] (List.getElem_mem hlt))
      rw [hgd] at q0 q1 HC1
      obtain ⟨x, hx⟩ : ∃ x, l[k] = x := ⟨_, rfl⟩
      rw [hx] at q0 q1 HC1 HT HNo HTs
      obtain ⟨s, y⟩ := x
      simp only at q0 q1 HC1 HTs
      clear hc c0 c1 hgd hx
      go_wp2_with fail
      refine (isVar_c s _ (by have := HTs.out; omega)).mono ?_
      rintro e w1 ⟨rfl, hb1⟩
      have HB1 := hid (HBe.out.trans (hb1.mono hz))
      clear hb1 q0 q1
      have q1 := (HB1.out.cell (p := ⟨g, o + k * 2 + 1, none⟩) hg).trans HC1.out
      cases hf : freeName s
      · have HN := hid (HNo.out (by simp [varOk, hf]))
        clear hf
        go_wp2_with fail
        go_ret
        exact ⟨bool_eq HN.out.symm, HB1.out⟩
      · have HF := hid hf
        clear hf
        go_wp2_with fail
        refine (C1.sisWord_c y _).mono ?_
        rintro e w2 ⟨rfl, rfl⟩
        cases hb : isW y
        · have HN := hid (HNo.out (by simp [varOk, hb]))
          clear hb
          go_wp2_with fail
          go_ret
          exact ⟨bool_eq HN.out.symm, HB1.out⟩
        · have HB := hid hb
          clear hb
          go_wp2_with fail
          go_roundw
          case rel => exact ⟨k + 1, by go_num, by omega, by rw [HT.out, HAll.out]; simp [varOk, HF.out, HB.out], HB1.out⟩
          case measure => simp [intOf]; omega
    · obtain rfl : k = l.length := by omega
      have hal := HAll.out
      rw [List.take_length] at hal
      have HAl := hid hal
      clear hal
      by_cases h60 : l.length ≤ 60
      case neg =>
        have HN := hid (show envOk l mem = false by rw [envOk, decide_eq_false h60]; simp)
        go_wp2_with fail
        go_ret
        exact ⟨bool_eq HN.out.symm, HBe.out⟩
      by_cases h64 : mem.length ≤ 64
      case neg =>
        have HN := hid (show envOk l mem = false by rw [envOk, decide_eq_false h64]; simp)
        go_wp2_with fail
        go_ret
        exact ⟨bool_eq HN.out.symm, HBe.out⟩
      go_wp2_with fail
      refine (sAreBytes_c mem _ _ (HVm.out.on HBe.out) (by omega)).mono ?_
      rintro e w2 ⟨rfl, rfl⟩
      have HE := hid (show envOk l mem = mem.all isByte by rw [envOk, HAl.out, decide_eq_true h60, decide_eq_true h64]; rfl)
      obtain ⟨b, hb⟩ : ∃ b, mem.all isByte = b := ⟨_, rfl⟩
      rw [hb] at HE ⊢
      clear hb
      go_wp2_with fail
      go_ret
      exact ⟨bool_eq HE.out.symm, HBe.out⟩
theorem sValue_v {vars : List Nm} {mem : List Int} (hok : EnvOk vars mem) {h : Nat} {n : Nat} {t : Tm} {kv vl vm : Value} {w : World} {x0 x1 : Int} {x2 : ByteArray} {lk : Nat} (hp : Pt t x0 x1 x2 lk) (hr : KRd w n kv t.kids) (hw : t.wide ≤ 1048576) (hs : shape h t = true) (hvl : NRd w vl vars) (hvm : Rd w vm mem) :
    Calls Tryd.prog 68 #[.agg #[.int .i64 x0, .int .i64 x1, .string x2, kv], vl, vm] w fun e w' => e = .returned (memVal (valT vars mem h t)) ∧ Below w.heap.size w w' := by
  rw [← hp.val]
  exact sValue_c vars mem hok h n t kv vl vm w hr hw hs hvl hvm
set_option maxRecDepth 100000 in
set_option maxHeartbeats 4000000 in
theorem sTermValue_c (vars : List Nm) (mem : List Int) (n : Nat) (t : Tm) (kv vl vm : Value) (w : World) (hr : KRd w n kv t.kids) (hw : t.wide ≤ 1048576) (hvl : NRd w vl vars) (hvm : Rd w vm mem) (hlv : vars.length ≤ 1048576) (hlm : mem.length ≤ 1048576) (htx : ∀ x ∈ vars, x.text.size ≤ 1048576) :
    Calls Tryd.prog 33 #[tmVal t kv, vl, vm] w fun e w' => e = .returned (memVal (termVal t vars mem)) ∧ Below w.heap.size w w' := by
  have HR := hid hr
  have HWd := hid hw
  have HVl := hid hvl
  have HVm := hid hvm
  have HTx := hid htx
  obtain ⟨a, cap, rfl⟩ := hr.slice
  obtain ⟨sl, cl, rfl, _⟩ := hvl
  obtain ⟨sm, cm, rfl, _⟩ := hvm
  obtain ⟨x0, x1, x2, lk, hp⟩ := Pt.of t
  rw [hp.val]
  have HP := hid hp
  rw [hp.l] at HR ⊢
  clear hr hw htx hp
  have HB0 := hid ((Below.refl w.heap.size w).alloc (Nat.le_refl _) (.cells #[.int .i64 x0, .int .i64 x1, .string x2, .slice a lk cap] 29))
  have HX0 := hid (Row.new w 29 #[.int .i64 x0, .int .i64 x1, .string x2, .slice a lk cap])
  cases hok : termOk t
  · have HOk := hid hok
    have HNo := hid (show termVal t vars mem = none by rw [termVal, hok]; rfl)
    clear hok
    go_enter Tryd.func33, Tryd.ntmps33
    go_wp2_with fail
    refine (validTerm_v HP.out (HR.out.on HB0.out) HWd.out HOk.out).mono ?_
    rintro e w1 ⟨rfl, hb1⟩
    have HB1 := hid (HB0.out.trans (hb1.mono HB0.out.size))
    clear hb1
    go_wp2_with fail
    go_ret2
    exact ⟨by rw [HNo.out]; rfl, HB1.out⟩
  have HOk := hid hok
  have HSh := hid (termOk_bd hok).1
  clear hok
  go_enter Tryd.func33, Tryd.ntmps33
  go_wp2_with fail
  refine (validTerm_v HP.out (HR.out.on HB0.out) HWd.out HOk.out).mono ?_
  rintro e w1 ⟨rfl, hb1⟩
  have HB1 := hid (HB0.out.trans (hb1.mono HB0.out.size))
  have HX1 := hid (HX0.out.on hb1)
  clear hb1
  go_wp2_with fail
  refine (validMem_c vars mem _ _ _ (HVl.out.on HB1.out) (HVm.out.on HB1.out) hlv hlm HTx.out).mono ?_
  rintro e w2 ⟨rfl, hb2⟩
  have HB2 := hid (HB1.out.trans (hb2.mono HB1.out.size))
  have HX2 := hid (HX1.out.on hb2)
  clear hb2
  cases hev : envOk vars mem
  · have HNo := hid (show termVal t vars mem = none by rw [termVal, hev]; simp)
    clear hev
    go_wp2_with fail
    go_ret2
    exact ⟨by rw [HNo.out]; rfl, HB2.out⟩
  have HEo := hid (envOk_is hev)
  have HYes := hid (show termVal t vars mem = valT vars mem 14 t by rw [termVal, HOk.out, hev]; rfl)
  clear hev
  have d0 := HX2.out.cell 0
  have d1 := HX2.out.cell 1
  have d2 := HX2.out.cell 2
  have d3 := HX2.out.cell 3
  simp at d0 d1 d2 d3
  go_wp2_with fail
  refine (sValue_v HEo.out HP.out (HR.out.on HB2.out) HWd.out HSh.out (HVl.out.on HB2.out) (HVm.out.on HB2.out)).mono ?_
  rintro e w5 ⟨rfl, hb5⟩
  have HB5 := hid (HB2.out.trans (hb5.mono HB2.out.size))
  obtain ⟨r, hr⟩ : ∃ r, valT vars mem 14 t = r := ⟨_, rfl⟩
  rw [hr] at HYes ⊢
  clear hb5 hr
  obtain ⟨r1, hr1⟩ : ∃ x, r.getD 0 = x := ⟨_, rfl⟩
  obtain ⟨r2, hr2⟩ : ∃ x, r.isSome = x := ⟨_, rfl⟩
  have HMv := hid (show memVal r = .tuple #[.int .i64 r1, .bool r2] by rw [memVal, hr1, hr2])
  rw [HMv.out]
  clear hr1 hr2
  go_wp2_with fail
  go_ret2
  exact ⟨by rw [HYes.out, HMv.out]; rfl, HB5.out⟩
end Go.Proofs.YtlgnakhfkpjioaaDoor.Um
