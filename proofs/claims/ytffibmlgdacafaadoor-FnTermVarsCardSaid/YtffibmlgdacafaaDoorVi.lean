/- A term put in the place of a variable: TermPut of the program. -/
import Derived.Test.YtffibmlgdacafaaDoorVh
set_option linter.unusedSimpArgs false
set_option linter.unusedVariables false
namespace Go.Proofs.YtffibmlgdacafaaDoor.Um
open Go.RowKit Go.MapKept Pl Ft Mm In C2 Im

def putOk (t : Tm) (s : ByteArray) (x : Tm) : Bool := termOk t && (freeName s && (termOk x && termOk (putT s x 14 t)))
/-- What TermPut gives. -/
def putR (t : Tm) (s : ByteArray) (x : Tm) : Tm := if putOk t s x then putT s x 14 t else tz
def TpPost (t : Tm) (s : ByteArray) (x : Tm) (w : World) (e : Ending) (w' : World) : Prop := ∃ v', e = .returned (.tuple #[tmVal (putR t s x) v', .bool (putOk t s x)]) ∧ KOwn w' 28 w.heap.size w'.heap.size v' (putR t s x).kids ∧ Below w.heap.size w w'
theorem tpPost_no {t : Tm} {s : ByteArray} {x : Tm} {w w' : World} (h : putOk t s x = false) (hb : Below w.heap.size w w') : TpPost t s x w (.returned (.tuple #[.agg #[.int .i64 0, .int .i64 0, .string ⟨#[]⟩, .slice none 0 0], .bool false])) w' := by
  have e : putR t s x = tz := by rw [putR, h]; rfl
  refine ⟨.slice none 0 0, by rw [e, h]; rfl, ?_, hb⟩
  rw [e]
  exact KOwn.empty hb.size ⟨by simp, .inl ⟨rfl, rfl⟩⟩ (fun r h => by cases h)
set_option maxRecDepth 100000 in
set_option maxHeartbeats 4000000 in
theorem termPut_c (n m : Nat) (t : Tm) (s : ByteArray) (x : Tm) (kv kx : Value) (w : World) (hr : KRd w n kv t.kids) (hrx : KRd w m kx x.kids) (hw : t.wide ≤ 1048576) (hwx : x.wide ≤ 1048576) (hs : s.size ≤ 1048576) (hT : Tabs w) :
    Calls Tryd.prog 30 #[tmVal t kv, .string s, tmVal x kx] w (TpPost t s x w) := by
  have HR := hid hr
  have HRx := hid hrx
  have HWd := hid hw
  have HWx := hid hwx
  have HT := hid hT
  obtain ⟨a, cap, rfl⟩ := hr.slice
  obtain ⟨ax, cx, rfl⟩ := hrx.slice
  clear hr hrx hw hwx hT
  obtain ⟨x0, x1, x2, lk, hp⟩ := Pt.of t
  obtain ⟨y0, y1, y2, ly, hq⟩ := Pt.of x
  rw [hp.val, hq.val]
  have HP := hid hp
  have HQ := hid hq
  rw [hp.l] at HR ⊢
  rw [hq.l] at HRx ⊢
  clear hp hq
  have hB1 := (Below.refl w.heap.size w).alloc (Nat.le_refl _) (.cells #[.int .i64 x0, .int .i64 x1, .string x2, .slice a lk cap] 28)
  have hB2 := hB1.alloc hB1.size (.cells #[.int .i64 y0, .int .i64 y1, .string y2, .slice ax ly cx] 28)
  have HB0 := hid (hB2.alloc hB2.size (.cells #[.int .i64 0, .int .i64 0, .string ⟨#[]⟩, .slice none 0 0] 28))
  have HX0 := hid (((Row.new w 28 #[.int .i64 x0, .int .i64 x1, .string x2, .slice a lk cap]).alloc (.cells #[.int .i64 y0, .int .i64 y1, .string y2, .slice ax ly cx] 28)).alloc (.cells #[.int .i64 0, .int .i64 0, .string ⟨#[]⟩, .slice none 0 0] 28))
  have HY0 := hid ((Row.new (w.alloc (.cells #[.int .i64 x0, .int .i64 x1, .string x2, .slice a lk cap] 28)) 28 #[.int .i64 y0, .int .i64 y1, .string y2, .slice ax ly cx]).alloc (.cells #[.int .i64 0, .int .i64 0, .string ⟨#[]⟩, .slice none 0 0] 28))
  have HZ0 := hid (Row.new ((w.alloc (.cells #[.int .i64 x0, .int .i64 x1, .string x2, .slice a lk cap] 28)).alloc (.cells #[.int .i64 y0, .int .i64 y1, .string y2, .slice ax ly cx] 28)) 28 #[.int .i64 0, .int .i64 0, .string ⟨#[]⟩, .slice none 0 0])
  simp only [World.size_alloc] at HY0 HZ0
  clear hB1 hB2
  cases hok : termOk t
  · have HOk := hid hok
    have HNo := hid (show putOk t s x = false by rw [putOk, hok]; rfl)
    clear hok
    go_enter Tryd.func30, Tryd.ntmps30
    go_wp2_with fail
    refine (termOk_v HP.out (HR.out.on HB0.out) HWd.out (HT.out.on HB0.out) HOk.out).mono ?_
    rintro e w1 ⟨rfl, hb1⟩
    have HB1 := hid (HB0.out.trans (hb1.mono HB0.out.size))
    have HZ1 := hid (HZ0.out.on hb1)
    clear hb1
    have r0 := HZ1.out.cell 0
    have r1 := HZ1.out.cell 1
    have r2 := HZ1.out.cell 2
    have r3 := HZ1.out.cell 3
    simp at r0 r1 r2 r3
    have hfr := HZ1.out.free
    go_wp2_with fail
    clear r0 r1 r2 r3 hfr
    have HR6 := hid (four_row HZ1.out (.int .i64 0) (.int .i64 0) (.string ⟨#[]⟩) (.slice none 0 0))
    refine bodyPost_ret (v := .tuple #[.agg #[.int .i64 0, .int .i64 0, .string ⟨#[]⟩, .slice none 0 0], .bool false]) ?_ rfl ?_
    · exact results_cell_tmp Tryd.results30 _ _ (w.heap.size + 1 + 1) _ _ rfl HR6.out Tryd.underlying28 size_term
    · exact tpPost_no HNo.out (four_bel HB1.out (by omega) _ _ _ _)
  have HOk := hid hok
  clear hok
  cases hfn : freeName s
  · have HFn := hid hfn
    have HNo := hid (show putOk t s x = false by rw [putOk, HOk.out, hfn]; rfl)
    clear hfn
    go_enter Tryd.func30, Tryd.ntmps30
    go_wp2_with fail
    refine (termOk_v HP.out (HR.out.on HB0.out) HWd.out (HT.out.on HB0.out) HOk.out).mono ?_
    rintro e w1 ⟨rfl, hb1⟩
    have HB1 := hid (HB0.out.trans (hb1.mono HB0.out.size))
    have HZ1 := hid (HZ0.out.on hb1)
    have HY1 := hid (HY0.out.on hb1)
    have HX1 := hid (HX0.out.on hb1)
    clear hb1
    have d0 := HY1.out.cell 0
    have d1 := HY1.out.cell 1
    have d2 := HY1.out.cell 2
    have d3 := HY1.out.cell 3
    simp at d0 d1 d2 d3
    go_wp2_with fail
    refine (isFreeName_c s w1 (by omega)).mono ?_
    rw [HFn.out]
    rintro e w1' ⟨rfl, rfl⟩
    clear d0 d1 d2 d3
    have r0 := HZ1.out.cell 0
    have r1 := HZ1.out.cell 1
    have r2 := HZ1.out.cell 2
    have r3 := HZ1.out.cell 3
    simp at r0 r1 r2 r3
    have hfr := HZ1.out.free
    go_wp2_with fail
    clear r0 r1 r2 r3 hfr
    have HR6 := hid (four_row HZ1.out (.int .i64 0) (.int .i64 0) (.string ⟨#[]⟩) (.slice none 0 0))
    refine bodyPost_ret (v := .tuple #[.agg #[.int .i64 0, .int .i64 0, .string ⟨#[]⟩, .slice none 0 0], .bool false]) ?_ rfl ?_
    · exact results_cell_tmp Tryd.results30 _ _ (w.heap.size + 1 + 1) _ _ rfl HR6.out Tryd.underlying28 size_term
    · exact tpPost_no HNo.out (four_bel HB1.out (by omega) _ _ _ _)
  have HFn := hid hfn
  clear hfn
  cases hox : termOk x
  · have HOx := hid hox
    have HNo := hid (show putOk t s x = false by rw [putOk, HOk.out, HFn.out, hox]; rfl)
    clear hox
    go_enter Tryd.func30, Tryd.ntmps30
    go_wp2_with fail
    refine (termOk_v HP.out (HR.out.on HB0.out) HWd.out (HT.out.on HB0.out) HOk.out).mono ?_
    rintro e w1 ⟨rfl, hb1⟩
    have HB1 := hid (HB0.out.trans (hb1.mono HB0.out.size))
    have HZ1 := hid (HZ0.out.on hb1)
    have HY1 := hid (HY0.out.on hb1)
    have HX1 := hid (HX0.out.on hb1)
    clear hb1
    have d0 := HY1.out.cell 0
    have d1 := HY1.out.cell 1
    have d2 := HY1.out.cell 2
    have d3 := HY1.out.cell 3
    simp at d0 d1 d2 d3
    go_wp2_with fail
    refine (isFreeName_c s w1 (by omega)).mono ?_
    rw [HFn.out]
    rintro e w1' ⟨rfl, rfl⟩
    go_wp2_with fail
    refine (termOk_v HQ.out (HRx.out.on HB1.out) HWx.out (HT.out.on HB1.out) HOx.out).mono ?_
    rintro e w2 ⟨rfl, hb2⟩
    have HB2 := hid (HB1.out.trans (hb2.mono HB1.out.size))
    have HZ2 := hid (HZ1.out.on hb2)
    have HY2 := hid (HY1.out.on hb2)
    have HX2 := hid (HX1.out.on hb2)
    have hz2 := HZ2.out.lt
    clear hb2 d0 d1 d2 d3
    have r0 := HZ2.out.cell 0
    have r1 := HZ2.out.cell 1
    have r2 := HZ2.out.cell 2
    have r3 := HZ2.out.cell 3
    simp at r0 r1 r2 r3
    have hfr := HZ2.out.free
    go_wp2_with fail
    clear r0 r1 r2 r3 hfr
    have HR6 := hid (four_row HZ2.out (.int .i64 0) (.int .i64 0) (.string ⟨#[]⟩) (.slice none 0 0))
    refine bodyPost_ret (v := .tuple #[.agg #[.int .i64 0, .int .i64 0, .string ⟨#[]⟩, .slice none 0 0], .bool false]) ?_ rfl ?_
    · exact results_cell_tmp Tryd.results30 _ _ (w.heap.size + 1 + 1) _ _ rfl HR6.out Tryd.underlying28 size_term
    · exact tpPost_no HNo.out (four_bel HB2.out (by omega) _ _ _ _)
  · have HOx := hid hox
    clear hox
    go_enter Tryd.func30, Tryd.ntmps30
    go_wp2_with fail
    refine (termOk_v HP.out (HR.out.on HB0.out) HWd.out (HT.out.on HB0.out) HOk.out).mono ?_
    rintro e w1 ⟨rfl, hb1⟩
    have HB1 := hid (HB0.out.trans (hb1.mono HB0.out.size))
    have HZ1 := hid (HZ0.out.on hb1)
    have HY1 := hid (HY0.out.on hb1)
    have HX1 := hid (HX0.out.on hb1)
    clear hb1
    have d0 := HY1.out.cell 0
    have d1 := HY1.out.cell 1
    have d2 := HY1.out.cell 2
    have d3 := HY1.out.cell 3
    simp at d0 d1 d2 d3
    go_wp2_with fail
    refine (isFreeName_c s w1 (by omega)).mono ?_
    rw [HFn.out]
    rintro e w1' ⟨rfl, rfl⟩
    go_wp2_with fail
    refine (termOk_v HQ.out (HRx.out.on HB1.out) HWx.out (HT.out.on HB1.out) HOx.out).mono ?_
    rintro e w2 ⟨rfl, hb2⟩
    have HB2 := hid (HB1.out.trans (hb2.mono HB1.out.size))
    have HZ2 := hid (HZ1.out.on hb2)
    have HY2 := hid (HY1.out.on hb2)
    have HX2 := hid (HX1.out.on hb2)
    have hz2 := HZ2.out.lt
    clear hb2 d0 d1 d2 d3
    have d0 := HX2.out.cell 0
    have d1 := HX2.out.cell 1
    have d2 := HX2.out.cell 2
    have d3 := HX2.out.cell 3
    have e0 := HY2.out.cell 0
    have e1 := HY2.out.cell 1
    have e2 := HY2.out.cell 2
    have e3 := HY2.out.cell 3
    simp at d0 d1 d2 d3 e0 e1 e2 e3
    have hmm := @run_makeMap Tryd.prog
    have hw1 : w.heap.size + 1 < w2.heap.size := by omega
    have hw0 : w.heap.size < w2.heap.size := by omega
    have HYm := hid (HY2.out.alloc (.map #[] 0))
    have f0 := HYm.out.cell 0
    have f1 := HYm.out.cell 1
    have f2 := HYm.out.cell 2
    have f3 := HYm.out.cell 3
    simp only [List.getElem?_toArray, List.getElem?_cons_zero, List.getElem?_cons_succ] at f0 f1 f2 f3
    have hput := run_put_one (Ms.eAt_new idV w2) s (by unfold maxLen; omega) (.agg #[.int .i64 y0, .int .i64 y1, .string y2, .slice ax ly cx])
    have hon := Ms.setE_only (w2.alloc (.map #[] 0)) w2.heap.size idV [(s, .agg #[.int .i64 y0, .int .i64 y1, .string y2, .slice ax ly cx])]
    have HM3 := hid (Ms.setE_at (w := w2.alloc (.map #[] 0)) (b := w2.heap.size) (by simp) idV [(s, .agg #[.int .i64 y0, .int .i64 y1, .string y2, .slice ax ly cx])])
    have hbA := (Below.refl w2.heap.size w2).alloc (Nat.le_refl _) (.map #[] 0)
    have hb3 := hbA.trans (hon.below (Nat.le_of_lt (by simp : w2.heap.size < (w2.alloc (.map #[] 0)).heap.size)) (fun b hb => by omega))
    have HB3 := hid (HB2.out.trans (hb3.mono HB2.out.size))
    have HX3 := hid (HX2.out.on hb3)
    have HZ3 := hid (HZ2.out.on hb3)
    clear hon hbA hb3
    go_wp2_with fail
    generalize Ms.setE (w2.alloc (.map #[] 0)) w2.heap.size idV [(s, .agg #[.int .i64 y0, .int .i64 y1, .string y2, .slice ax ly cx])] = w3 at HM3 HB3 HX3 HZ3 ⊢
    rw [← HQ.out.val] at HM3
    rw [← HP.out.val]
    refine (put_c s x _ w2.heap.size m 14 (termOk_bd HOx.out).1 14 n t _ w3 (HR.out.on HB3.out) HWd.out (termOk_bd HOk.out).1 HM3.out (HRx.out.on HB3.out)).mono ?_
    rintro e w4 ⟨v4, rfl, hown4, hb4⟩
    rw [HP.out.val]
    have HWp := hid (put_small (s := s) HOk.out HOx.out)
    have HRs := hid (show putR t s x = if putOk t s x then putT s x 14 t else tz from rfl)
    have HPo := hid (show putOk t s x = termOk (putT s x 14 t) by rw [putOk, HOk.out, HFn.out, HOx.out]; rfl)
    obtain ⟨t3, ht3⟩ : ∃ r, putT s x 14 t = r := ⟨_, rfl⟩
    rw [ht3] at hown4 HWp HRs HPo ⊢
    clear ht3
    obtain ⟨s4, c4, rfl⟩ := hown4.slice
    obtain ⟨z0, z1, z2, lz, hq3⟩ := Pt.of t3
    rw [hq3.val]
    have HQ3 := hid hq3
    have HOwn4 := hid hown4
    have HLo := hid HZ3.out.lt
    have HLe := hid HB3.out.size
    rw [hq3.l] at HOwn4 ⊢
    have HB4 := hid (HB3.out.trans (hb4.mono HB3.out.size))
    have HZ4 := hid (HZ3.out.on hb4)
    have hA5 := (Below.refl w4.heap.size w4).alloc (Nat.le_refl _) (.cells #[.int .i64 z0, .int .i64 z1, .string z2, .slice s4 lz c4] 28)
    have HA5 := hid hA5
    have HB5 := hid (HB4.out.trans (hA5.mono HB4.out.size))
    have HZ5 := hid (HZ4.out.on hA5)
    have HO5 := hid (HOwn4.out.on hA5)
    have HV5 := hid (Row.new w4 28 #[.int .i64 z0, .int .i64 z1, .string z2, .slice s4 lz c4])
    clear hq3 hown4 hb4 hA5 d0 d1 d2 d3 e0 e1 e2 e3 f0 f1 f2 f3 hput
    go_wp2_with fail
    refine (termOk_v HQ3.out HO5.out.rd (by have := HWp.out; omega) (HT.out.on HB5.out) rfl).mono ?_
    rintro e w6 ⟨rfl, hb6⟩
    have HB6 := hid (HB5.out.trans (hb6.mono HB5.out.size))
    have HZ6 := hid (HZ5.out.on hb6)
    have HV6 := hid (HV5.out.on hb6)
    have HO6 := hid (HO5.out.on hb6)
    have hz6 := hb6.size
    simp only [World.size_alloc] at hz6
    clear hb6
    cases hob : termOk t3
    · have HNo := hid (show putOk t s x = false by rw [HPo.out, hob])
      clear hob
      have r0 := HZ6.out.cell 0
      have r1 := HZ6.out.cell 1
      have r2 := HZ6.out.cell 2
      have r3 := HZ6.out.cell 3
      simp at r0 r1 r2 r3
      have hfr := HZ6.out.free
      go_wp2_with fail
      clear r0 r1 r2 r3 hfr
      have HR6 := hid (four_row HZ6.out (.int .i64 0) (.int .i64 0) (.string ⟨#[]⟩) (.slice none 0 0))
      refine bodyPost_ret (v := .tuple #[.agg #[.int .i64 0, .int .i64 0, .string ⟨#[]⟩, .slice none 0 0], .bool false]) ?_ rfl ?_
      · exact results_cell_tmp Tryd.results30 _ _ (w.heap.size + 1 + 1) _ _ rfl HR6.out Tryd.underlying28 size_term
      · exact tpPost_no HNo.out (four_bel HB6.out (by omega) _ _ _ _)
    · have HYes := hid (show putOk t s x = true by rw [HPo.out, hob])
      clear hob
      have r0 := HZ6.out.cell 0
      have r1 := HZ6.out.cell 1
      have r2 := HZ6.out.cell 2
      have r3 := HZ6.out.cell 3
      have v0 := HV6.out.cell 0
      have v1 := HV6.out.cell 1
      have v2 := HV6.out.cell 2
      have v3 := HV6.out.cell 3
      simp at r0 r1 r2 r3 v0 v1 v2 v3
      have hfr := HZ6.out.free
      go_wp2_with fail
      clear r0 r1 r2 r3 v0 v1 v2 v3 hfr
      have HR6 := hid (four_row HZ6.out (.int .i64 z0) (.int .i64 z1) (.string z2) (.slice s4 lz c4))
      refine bodyPost_ret (v := .tuple #[.agg #[.int .i64 z0, .int .i64 z1, .string z2, .slice s4 lz c4], .bool true]) ?_ rfl ?_
      · exact results_cell_tmp Tryd.results30 _ _ (w.heap.size + 1 + 1) _ _ rfl HR6.out Tryd.underlying28 size_term
      · have hR : putR t s x = t3 := by rw [HRs.out, HYes.out]; rfl
        refine ⟨.slice s4 lz c4, by rw [hR, HYes.out, HQ3.out.val], ?_, four_bel HB6.out (by omega) _ _ _ _⟩
        rw [hR, four_size]
        refine (HO6.out.keep (fun b h1 h2 h3 => ?_)).widen HLe.out (by omega)
        rw [four_far _ _ _ (by have := HLo.out; omega)]
end Go.Proofs.YtffibmlgdacafaaDoor.Um
