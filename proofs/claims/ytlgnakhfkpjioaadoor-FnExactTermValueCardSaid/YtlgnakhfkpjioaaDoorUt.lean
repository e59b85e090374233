/- TermValue of the program. -/
import Derived.Test.YtlgnakhfkpjioaaDoorUs
import Derived.Test.YtlgnakhfkpjioaaDoorUi
set_option linter.unusedSimpArgs false
set_option linter.unusedVariables false
namespace Go.Proofs.YtlgnakhfkpjioaaDoor.Um
open Go.RowKit Go.MapKept Pl Ft Mm In C2 Im

def varOk (v : Nm) : Bool := freeName v.text && isW v.at_
def envOk (vars : List Nm) (mem : List Int) : Bool := vars.all varOk && (decide (vars.length ≤ 60) && (decide (mem.length ≤ 64) && mem.all isByte))
theorem envOk_is {vars : List Nm} {mem : List Int} (h : envOk vars mem = true) : EnvOk vars mem := by
  simp only [envOk, Bool.and_eq_true, decide_eq_true_eq, List.all_eq_true, varOk] at h
  exact ⟨fun v hv => h.1 v hv, h.2.1, h.2.2.1, by rw [List.all_eq_true]; exact h.2.2.2⟩
/-- The value of a term; none if it is none, or for whatever else is none. -/
def termVal (t : Tm) (vars : List Nm) (mem : List Int) : Option Int := if termOk t && envOk vars mem then valT vars mem 14 t else none
theorem isValued_c (v : Nm) (w : World) (hs : v.text.size ≤ 1048576) : Calls Tryd.prog 71 #[.agg #[.string v.text, .int .i64 v.at_]] w fun e w' => e = .returned (.bool (varOk v)) ∧ Below w.heap.size w w' := by
  obtain ⟨s, x⟩ := v
  simp only at hs ⊢
  have HB0 := hid ((Below.refl w.heap.size w).alloc (Nat.le_refl _) (.cells #[.string s, .int .i64 x] 65))
  cases h : freeName s
  · have H := hid h
    clear h
    go_enter Tryd.func71, Tryd.ntmps71
    go_wp2_with (go_at_call 64; refine (isFreeName_c s _ (by omega)).mono ?_; rw [H.out]; rintro e w1 ⟨rfl, rfl⟩)
    go_ret
    exact ⟨bool_eq (by simp [varOk, H.out]), HB0.out⟩
  · have H := hid h
    clear h
    go_enter Tryd.func71, Tryd.ntmps71
    go_wp2_with (go_at_call 64; refine (isFreeName_c s _ (by omega)).mono ?_; rw [H.out]; rintro e w1 ⟨rfl, rfl⟩)
    refine (C1.isWord_c x _).mono ?_
    rintro e w1 ⟨rfl, rfl⟩
    obtain ⟨b, hb⟩ : ∃ b, isW x = b := ⟨_, rfl⟩
    rw [hb]
    have HB := hid hb
    clear hb
    go_wp2_with fail
    go_ret
    exact ⟨bool_eq (by simp [varOk, H.out, HB.out]), HB0.out⟩
theorem valuedFn_enter (xs : Array Value) (w : World) : (callFunc 71 xs).run Tryd.prog w = .ok (.enter 71 xs) w := by kernel_rfl
set_option maxRecDepth 100000 in
set_option maxHeartbeats 2000000 in
theorem everyVar_c (l : List Nm) (v : Value) (w : World) (hr : NRd w v l) (hl : l.length ≤ 1048576) (ht : ∀ x ∈ l, x.text.size ≤ 1048576) :
    Calls Tryd.prog 70 #[v, .func (.func 71) #[] #[]] w fun e w' => e = .returned (.bool (l.all varOk)) ∧ Below w.heap.size w w' := by
  obtain ⟨a, cap, rfl, ha⟩ := hr
  have HA := hid ha
  have HTx := hid ht
  clear ha ht
  have hen := valuedFn_enter
  go_enter Tryd.func70, Tryd.ntmps70
  go_wp2_with fail
  go_loopw [9] (fun y wr => ∃ k : Nat, y = .int .i64 k ∧ k ≤ l.length ∧ (l.take k).all varOk = true ∧ Below w.heap.size w wr) (fun y _ => l.length - (intOf y).toNat)
  case atStart => exact ⟨0, rfl, by omega, rfl, Below.refl _ _⟩
  case round =>
    obtain ⟨k, rfl, hk, hall, hbel⟩ := hrel
    have HAll := hid hall
    have HBe := hid hbel
    have hz := hbel.size
    clear hall
    by_cases hlt : k < l.length
    · rcases HA.out with h | ⟨g, o, rfl, hg, hc⟩
      · subst h; simp at hlt
      obtain ⟨c0, c1⟩ := hc k hlt
      have q0 := (hbel.cell (p := ⟨g, o + k * 2, none⟩) hg).trans c0
      have q1 := (hbel.cell (p := ⟨g, o + k * 2 + 1, none⟩) hg).trans c1
      have hgd : l.getD k .none = l[k] := by simp [hlt]
      have HT := hid (show (l.take (k + 1)).all varOk = ((l.take k).all varOk && varOk l[k]) from by rw [List.take_succ_eq_append_getElem hlt, List.all_append]; simp)
      have HNo := hid (show varOk l[k] = false → l.all varOk = false from fun h => by rw [List.all_eq_false]; exact ⟨l[k], List.getElem_mem hlt, by rw [h]; decide⟩)
      have HTs := hid (HTx.out l[k] (List.getElem_mem hlt))
      rw [hgd] at q0 q1
      obtain ⟨x, hx⟩ : ∃ x, l[k] = x := ⟨_, rfl⟩
      rw [hx] at q0 q1 HT HNo HTs
      obtain ⟨s, y⟩ := x
      simp only at q0 q1
      clear hc c0 c1 hgd hx
      have HA2 := hid ((Below.refl wr.heap.size wr).alloc (Nat.le_refl _) (.cells #[.string s, .int .i64 y] 65))
      have HB2 := hid (HBe.out.trans (HA2.out.mono hz))
      go_wp2_with fail
      refine (isValued_c ⟨s, y⟩ _ HTs.out).mono ?_
      rintro e w1 ⟨rfl, hb1⟩
      have HB1 := hid (HB2.out.trans (hb1.mono HB2.out.size))
      clear hb1 q0 q1
      cases hb : varOk ⟨s, y⟩
      · have HB := hid hb
        clear hb
        go_wp2_with fail
        go_ret
        exact ⟨by rw [HNo.out HB.out]; rfl, HB1.out⟩
      · have HB := hid hb
        clear hb
        go_wp2_with fail
        go_roundw
        case rel => exact ⟨k + 1, by go_num, by omega, by rw [HT.out, HAll.out, HB.out]; rfl, HB1.out⟩
        case measure => simp [intOf]; omega
    · obtain rfl : k = l.length := by omega
      have hal := HAll.out
      rw [List.take_length] at hal
      have HAl := hid hal
      clear hal
      go_wp2_with fail
      go_ret
      exact ⟨by rw [HAl.out]; rfl, HBe.out⟩
theorem value_v {vars : List Nm} {mem : List Int} {m0 : Nat} {v : Value} (hok : EnvOk vars mem) {h : Nat} {n : Nat} {t : Tm} {kv : Value} {w : World} {x0 x1 : Int} {x2 : ByteArray} {lk : Nat} (hp : Pt t x0 x1 x2 lk) (hr : KRd w n kv t.kids) (hw : t.wide ≤ 1048576) (hs : shape h t = true) (he : Env vars mem m0 v w) (hT : Tabs w) :
    Calls Tryd.prog 73 #[.agg #[.map (some m0), v], .agg #[.int .i64 x0, .int .i64 x1, .string x2, kv]] w fun e w' => e = .returned (memVal (valT vars mem h t)) ∧ Below w.heap.size w w' := by
  rw [← hp.val]
  exact value_c vars mem m0 v hok h n t kv w hr hw hs he hT
set_option maxRecDepth 100000 in
set_option maxHeartbeats 8000000 in
theorem termValue_c (vars : List Nm) (mem : List Int) (n : Nat) (t : Tm) (kv vl vm : Value) (w : World) (hr : KRd w n kv t.kids) (hw : t.wide ≤ 1048576) (hvl : NRd w vl vars) (hvm : Rd w vm mem) (hcap : CapOk vm) (hlv : vars.length ≤ 1048576) (hlm : mem.length ≤ 1048576) (htx : ∀ x ∈ vars, x.text.size ≤ 1048576) (hT : Tabs w) :
    Calls Tryd.prog 36 #[tmVal t kv, vl, vm] w fun e w' => e = .returned (memVal (termVal t vars mem)) ∧ Below w.heap.size w w' := by
  have HR := hid hr
  have HWd := hid hw
  have HVl := hid hvl
  have HVm := hid hvm
  have HCap := hid hcap
  have HTx := hid htx
  have HT := hid hT
  have HLv := hid hlv
  have HLm := hid (show mem.length ≤ 4611686018427387904 by omega)
  obtain ⟨a, cap, rfl⟩ := hr.slice
  obtain ⟨sl, cl, rfl, _⟩ := hvl
  obtain ⟨sm, cm, rfl, _⟩ := hvm
  obtain ⟨x0, x1, x2, lk, hp⟩ := Pt.of t
  rw [hp.val]
  have HP := hid hp
  rw [hp.l] at HR ⊢
  clear hr hw hcap htx hT hp
  have HB0 := hid ((Below.refl w.heap.size w).alloc (Nat.le_refl _) (.cells #[.int .i64 x0, .int .i64 x1, .string x2, .slice a lk cap] 29))
  have HX0 := hid (Row.new w 29 #[.int .i64 x0, .int .i64 x1, .string x2, .slice a lk cap])
  cases hok : termOk t
  · have HOk := hid hok
    have HNo := hid (show termVal t vars mem = none by rw [termVal, hok]; rfl)
    clear hok
    go_enter Tryd.func36, Tryd.ntmps36
    go_wp2_with (first
      | (go_at_call 15; refine (termOk_v HP.out (HR.out.on HB0.out) HWd.out (HT.out.on HB0.out) HOk.out).mono ?_; rintro e w1 ⟨rfl, hb1⟩; have HB1 := hid (HB0.out.trans (hb1.mono HB0.out.size)); have HX1 := hid (HX0.out.on hb1); clear hb1)
      | (go_at_call 70; refine (everyVar_c vars _ _ (HVl.out.on HB1.out) HLv.out HTx.out).mono ?_; rw [HEv.out]; rintro e w2 ⟨rfl, hb2⟩; have HB2 := hid (HB1.out.trans (hb2.mono HB1.out.size)); have HX2 := hid (HX1.out.on hb2); clear hb2)
      | (go_at_call 72; refine (areBytes_c mem _ _ (HVm.out.on HB2.out) HLm.out).mono ?_; rw [HBy.out]; rintro e w3 ⟨rfl, rfl⟩))
    go_ret2
    exact ⟨by rw [HNo.out]; rfl, HB1.out⟩
  have HOk := hid hok
  have HSh := hid (termOk_bd hok).1
  clear hok
  by_cases h60 : vars.length ≤ 60
  case neg =>
    have HNo := hid (show termVal t vars mem = none by rw [termVal, envOk, decide_eq_false h60]; simp)
    go_enter Tryd.func36, Tryd.ntmps36
    go_wp2_with (first
      | (go_at_call 15; refine (termOk_v HP.out (HR.out.on HB0.out) HWd.out (HT.out.on HB0.out) HOk.out).mono ?_; rintro e w1 ⟨rfl, hb1⟩; have HB1 := hid (HB0.out.trans (hb1.mono HB0.out.size)); have HX1 := hid (HX0.out.on hb1); clear hb1)
      | (go_at_call 70; refine (everyVar_c vars _ _ (HVl.out.on HB1.out) HLv.out HTx.out).mono ?_; rw [HEv.out]; rintro e w2 ⟨rfl, hb2⟩; have HB2 := hid (HB1.out.trans (hb2.mono HB1.out.size)); have HX2 := hid (HX1.out.on hb2); clear hb2)
      | (go_at_call 72; refine (areBytes_c mem _ _ (HVm.out.on HB2.out) HLm.out).mono ?_; rw [HBy.out]; rintro e w3 ⟨rfl, rfl⟩))
    go_ret2
    exact ⟨by rw [HNo.out]; rfl, HB1.out⟩
  cases hev : vars.all varOk
  · have HEv := hid hev
    have HNo := hid (show termVal t vars mem = none by rw [termVal, envOk, hev]; simp)
    clear hev
    go_enter Tryd.func36, Tryd.ntmps36
    go_wp2_with (first
      | (go_at_call 15; refine (termOk_v HP.out (HR.out.on HB0.out) HWd.out (HT.out.on HB0.out) HOk.out).mono ?_; rintro e w1 ⟨rfl, hb1⟩; have HB1 := hid (HB0.out.trans (hb1.mono HB0.out.size)); have HX1 := hid (HX0.out.on hb1); clear hb1)
      | (go_at_call 70; refine (everyVar_c vars _ _ (HVl.out.on HB1.out) HLv.out HTx.out).mono ?_; rw [HEv.out]; rintro e w2 ⟨rfl, hb2⟩; have HB2 := hid (HB1.out.trans (hb2.mono HB1.out.size)); have HX2 := hid (HX1.out.on hb2); clear hb2)
      | (go_at_call 72; refine (areBytes_c mem _ _ (HVm.out.on HB2.out) HLm.out).mono ?_; rw [HBy.out]; rintro e w3 ⟨rfl, rfl⟩))
    go_ret2
    exact ⟨by rw [HNo.out]; rfl, HB2.out⟩
  have HEv := hid hev
  clear hev
  by_cases h64 : mem.length ≤ 64
  case neg =>
    have HNo := hid (show termVal t vars mem = none by rw [termVal, envOk, decide_eq_false h64]; simp)
    go_enter Tryd.func36, Tryd.ntmps36
    go_wp2_with (first
      | (go_at_call 15; refine (termOk_v HP.out (HR.out.on HB0.out) HWd.out (HT.out.on HB0.out) HOk.out).mono ?_; rintro e w1 ⟨rfl, hb1⟩; have HB1 := hid (HB0.out.trans (hb1.mono HB0.out.size)); have HX1 := hid (HX0.out.on hb1); clear hb1)
      | (go_at_call 70; refine (everyVar_c vars _ _ (HVl.out.on HB1.out) HLv.out HTx.out).mono ?_; rw [HEv.out]; rintro e w2 ⟨rfl, hb2⟩; have HB2 := hid (HB1.out.trans (hb2.mono HB1.out.size)); have HX2 := hid (HX1.out.on hb2); clear hb2)
      | (go_at_call 72; refine (areBytes_c mem _ _ (HVm.out.on HB2.out) HLm.out).mono ?_; rw [HBy.out]; rintro e w3 ⟨rfl, rfl⟩))
    go_ret2
    exact ⟨by rw [HNo.out]; rfl, HB2.out⟩
  cases hby : mem.all isByte
  · have HBy := hid hby
    have HNo := hid (show termVal t vars mem = none by rw [termVal, envOk, hby]; simp)
    clear hby
    go_enter Tryd.func36, Tryd.ntmps36
    go_wp2_with (first
      | (go_at_call 15; refine (termOk_v HP.out (HR.out.on HB0.out) HWd.out (HT.out.on HB0.out) HOk.out).mono ?_; rintro e w1 ⟨rfl, hb1⟩; have HB1 := hid (HB0.out.trans (hb1.mono HB0.out.size)); have HX1 := hid (HX0.out.on hb1); clear hb1)
      | (go_at_call 70; refine (everyVar_c vars _ _ (HVl.out.on HB1.out) HLv.out HTx.out).mono ?_; rw [HEv.out]; rintro e w2 ⟨rfl, hb2⟩; have HB2 := hid (HB1.out.trans (hb2.mono HB1.out.size)); have HX2 := hid (HX1.out.on hb2); clear hb2)
      | (go_at_call 72; refine (areBytes_c mem _ _ (HVm.out.on HB2.out) HLm.out).mono ?_; rw [HBy.out]; rintro e w3 ⟨rfl, rfl⟩))
    go_ret2
    exact ⟨by rw [HNo.out]; rfl, HB2.out⟩
  have HBy := hid hby
  clear hby
  have HEnv := hid (show envOk vars mem = true by rw [envOk, HEv.out, HBy.out, decide_eq_true h60, decide_eq_true h64]; rfl)
  have HYes := hid (show termVal t vars mem = valT vars mem 14 t by rw [termVal, HOk.out, HEnv.out]; rfl)
  have HEo := hid (envOk_is HEnv.out)
  have hmm := @run_makeMap Tryd.prog
  go_enter Tryd.func36, Tryd.ntmps36
  go_wp2_with (first
      | (go_at_call 15; refine (termOk_v HP.out (HR.out.on HB0.out) HWd.out (HT.out.on HB0.out) HOk.out).mono ?_; rintro e w1 ⟨rfl, hb1⟩; have HB1 := hid (HB0.out.trans (hb1.mono HB0.out.size)); have HX1 := hid (HX0.out.on hb1); clear hb1)
      | (go_at_call 70; refine (everyVar_c vars _ _ (HVl.out.on HB1.out) HLv.out HTx.out).mono ?_; rw [HEv.out]; rintro e w2 ⟨rfl, hb2⟩; have HB2 := hid (HB1.out.trans (hb2.mono HB1.out.size)); have HX2 := hid (HX1.out.on hb2); clear hb2)
      | (go_at_call 72; refine (areBytes_c mem _ _ (HVm.out.on HB2.out) HLm.out).mono ?_; rw [HBy.out]; rintro e w3 ⟨rfl, rfl⟩))
  have HB3 := hid (HB2.out.alloc HB2.out.size (.map #[] 0))
  have HX3 := hid (HX2.out.alloc (.map #[] 0))
  have HE3 := hid (Ms.eAt_new Ms.encI w2)
  have hz2 := HX2.out.lt
  go_loopw [37] (fun c wr => ∃ k : Nat, c = .int .i64 k ∧ k ≤ vars.length ∧ Ms.EAt wr w2.heap.size Ms.encI (mapOf (vars.take k)) ∧ Row wr w.heap.size 29 #[.int .i64 x0, .int .i64 x1, .string x2, .slice a lk cap] ∧ Below w.heap.size w wr) (fun c _ => vars.length - (intOf c).toNat)
  case atStart => exact ⟨0, rfl, by omega, HE3.out, HX3.out, HB3.out⟩
  case round =>
    obtain ⟨k, rfl, hk, heat, hrx, hbel⟩ := hrel
    have HEa := hid heat
    have HRx := hid hrx
    have HBe := hid hbel
    have hz := hbel.size
    by_cases hlt : k < vars.length
    · obtain ⟨_, _, he, hcs⟩ := HVl.out
      cases he
      rcases hcs with h | ⟨g, o, rfl, hg, hc⟩
      · subst h; simp at hlt
      obtain ⟨c0, c1⟩ := hc k hlt
      have q0 := (hbel.cell (p := ⟨g, o + k * 2, none⟩) hg).trans c0
      have q1 := (hbel.cell (p := ⟨g, o + k * 2 + 1, none⟩) hg).trans c1
      have hgd : vars.getD k .none = vars[k] := by simp [hlt]
      have hts := HTx.out vars[k] (List.getElem_mem hlt)
      have HSn := hid (show mapOf (vars.take (k + 1)) = Ms.putE (mapOf (vars.take k)) (vars[k]).text (vars[k]).at_ by rw [List.take_succ_eq_append_getElem hlt, mapOf_snoc])
      rw [hgd] at q0 q1
      obtain ⟨x, hx⟩ : ∃ x, vars[k] = x := ⟨_, rfl⟩
      rw [hx] at q0 q1 hts HSn
      obtain ⟨s, y⟩ := x
      simp only at q0 q1 hts HSn
      have hput := Ms.run_put_i (heat.alloc (.cells #[.string s, .int .i64 y] 65)) s (by unfold maxLen; omega) y
      unfold Ms.encI at hput
      have HBa := hid (HBe.out.alloc hz (.cells #[.string s, .int .i64 y] 65))
      have HRa := hid (HRx.out.alloc (.cells #[.string s, .int .i64 y] 65))
      have hlw : w2.heap.size < wr.heap.size := heat.lt
      have HOn := hid (Ms.setE_only (wr.alloc (.cells #[.string s, .int .i64 y] 65)) w2.heap.size Ms.encI (Ms.putE (mapOf (vars.take k)) s y))
      have HAt := hid (Ms.setE_at (w := wr.alloc (.cells #[.string s, .int .i64 y] 65)) (b := w2.heap.size) (by simp; omega) Ms.encI (Ms.putE (mapOf (vars.take k)) s y))
      clear hc c0 c1 hgd hx heat hrx
      go_wp2_with fail
      go_roundw
      case rel =>
        refine ⟨k + 1, by go_num, by omega, by rw [HSn.out]; exact HAt.out, row_only HRa.out (by omega) HOn.out, HBa.out.trans (HOn.out.below HBa.out.size (fun j hj => by omega))⟩
      case measure => simp [intOf]; omega
    · obtain rfl : k = vars.length := by omega
      rw [List.take_length] at heat
      have HMp := hid heat
      have d0 := hrx.cell 0
      have d1 := hrx.cell 1
      have d2 := hrx.cell 2
      have d3 := hrx.cell 3
      simp at d0 d1 d2 d3
      clear heat hrx hbel HEa
      go_wp2_with fail
      refine (value_v HEo.out HP.out (HR.out.on HBe.out) HWd.out HSh.out ⟨HMp.out, HVm.out.on HBe.out, HCap.out⟩ (HT.out.on HBe.out)).mono ?_
      rintro e w5 ⟨rfl, hb5⟩
      have HB5 := hid (HBe.out.trans (hb5.mono hz))
      obtain ⟨r, hr⟩ : ∃ r, valT vars mem 14 t = r := ⟨_, rfl⟩
      rw [hr] at HYes ⊢
      clear hb5 hr
      obtain ⟨r1, hr1⟩ : ∃ x, r.getD 0 = x := ⟨_, rfl⟩
      obtain ⟨r2, hr2⟩ : ∃ x, r.isSome = x := ⟨_, rfl⟩
      have HMv := hid (show memVal r = .tuple #[.int .i64 r1, .bool r2] by rw [memVal, hr1, hr2])
      rw [HMv.out]
      clear hr1 hr2
      go_wp2_with fail
      go_ret2
      exact ⟨by rw [HYes.out, HMv.out]; rfl, HB5.out⟩
end Go.Proofs.YtlgnakhfkpjioaaDoor.Um
