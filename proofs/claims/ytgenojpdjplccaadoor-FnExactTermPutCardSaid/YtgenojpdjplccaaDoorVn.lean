/- A term in which another one stands for a variable: TermPut of the model. -/
import Derived.Test.YtgenojpdjplccaaDoorVm
set_option linter.unusedSimpArgs false
set_option linter.unusedVariables false
namespace Go.Proofs.YtgenojpdjplccaaDoor.Um
open Go.RowKit Go.MapKept Pl Ft Mm In C2 Im

def SpPost (n : Nat) (t : Tm) (s : ByteArray) (x : Tm) (w : World) (e : Ending) (w' : World) : Prop := ∃ v', e = .returned (.tuple #[tmVal (putR t s x) v', .bool (putOk t s x)]) ∧ KOwn w' n w.heap.size w'.heap.size v' (putR t s x).kids ∧ Below w.heap.size w w'
theorem spPost_no {n : Nat} {t : Tm} {s : ByteArray} {x : Tm} {w w' : World} (h : putOk t s x = false) (hb : Below w.heap.size w w') : SpPost n t s x w (.returned (.tuple #[.agg #[.int .i64 0, .int .i64 0, .string ⟨#[]⟩, .slice none 0 0], .bool false])) w' := by
  have e : putR t s x = tz := by rw [putR, h]; rfl
  refine ⟨.slice none 0 0, by rw [e, h]; rfl, ?_, hb⟩
  rw [e]
  exact KOwn.empty hb.size ⟨by simp, .inl ⟨rfl, rfl⟩⟩ (fun r h => by cases h)
set_option maxRecDepth 100000 in
set_option maxHeartbeats 4000000 in
theorem sTermPut_c (n m : Nat) (t : Tm) (s : ByteArray) (x : Tm) (kv kx : Value) (w : World) (hr : KRd w n kv t.kids) (hrx : KRd w m kx x.kids) (hw : t.wide ≤ 1048576) (hwx : x.wide ≤ 1048576) (hs : s.size ≤ 1048576) :
    Calls Tryd.prog 18 #[tmVal t kv, .string s, tmVal x kx] w (SpPost (14 + m) t s x w) := by
  have HR := hid hr
  have HRx := hid hrx
  have HWd := hid hw
  have HWx := hid hwx
  obtain ⟨a, cap, rfl⟩ := hr.slice
  obtain ⟨ax, cx, rfl⟩ := hrx.slice
  clear hr hrx hw hwx
  obtain ⟨x0, x1, x2, lk, hp⟩ := Pt.of t
  obtain ⟨y0, y1, y2, ly, hq⟩ := Pt.of x
  rw [hp.val, hq.val]
  have HP := hid hp
  have HQ := hid hq
  rw [hp.l] at HR ⊢
  rw [hq.l] at HRx ⊢
  clear hp hq
  have hB1 := (Below.refl w.heap.size w).alloc (Nat.le_refl _) (.cells #[.int .i64 x0, .int .i64 x1, .string x2, .slice a lk cap] 25)
  have hB2 := hB1.alloc hB1.size (.cells #[.int .i64 y0, .int .i64 y1, .string y2, .slice ax ly cx] 25)
  have HB0 := hid (hB2.alloc hB2.size (.cells #[.int .i64 0, .int .i64 0, .string ⟨#[]⟩, .slice none 0 0] 25))
  have HX0 := hid (((Row.new w 25 #[.int .i64 x0, .int .i64 x1, .string x2, .slice a lk cap]).alloc (.cells #[.int .i64 y0, .int .i64 y1, .string y2, .slice ax ly cx] 25)).alloc (.cells #[.int .i64 0, .int .i64 0, .string ⟨#[]⟩, .slice none 0 0] 25))
  have HY0 := hid ((Row.new (w.alloc (.cells #[.int .i64 x0, .int .i64 x1, .string x2, .slice a lk cap] 25)) 25 #[.int .i64 y0, .int .i64 y1, .string y2, .slice ax ly cx]).alloc (.cells #[.int .i64 0, .int .i64 0, .string ⟨#[]⟩, .slice none 0 0] 25))
  have HZ0 := hid (Row.new ((w.alloc (.cells #[.int .i64 x0, .int .i64 x1, .string x2, .slice a lk cap] 25)).alloc (.cells #[.int .i64 y0, .int .i64 y1, .string y2, .slice ax ly cx] 25)) 25 #[.int .i64 0, .int .i64 0, .string ⟨#[]⟩, .slice none 0 0])
  simp only [World.size_alloc] at HY0 HZ0
  clear hB1 hB2
  cases hok : termOk t
  · have HOk := hid hok
    have HNo := hid (show putOk t s x = false by rw [putOk, hok]; rfl)
    clear hok
    go_enter Tryd.func18, Tryd.ntmps18
    go_wp2_with fail
    refine (validTerm_v HP.out (HR.out.on HB0.out) HWd.out HOk.out).mono ?_
    rintro e w1 ⟨rfl, hb1⟩
    have HB1 := hid (HB0.out.trans (hb1.mono HB0.out.size))
    have HX1 := hid (HX0.out.on hb1)
    have HY1 := hid (HY0.out.on hb1)
    have HZ1 := hid (HZ0.out.on hb1)
    clear hb1
    have r0 := HZ1.out.cell 0
    have r1 := HZ1.out.cell 1
    have r2 := HZ1.out.cell 2
    have r3 := HZ1.out.cell 3
    simp at r0 r1 r2 r3
    have hfr := HZ1.out.free
    go_wp2_with fail
    clear r0 r1 r2 r3 hfr
    refine bodyPost_ret (v := .tuple #[.agg #[.int .i64 0, .int .i64 0, .string ⟨#[]⟩, .slice none 0 0], .bool false]) ?_ rfl ?_
    · exact results_cell_tmp Tryd.results18 _ _ (w.heap.size + 1 + 1) _ _ rfl (four_row HZ1.out (.int .i64 0) (.int .i64 0) (.string ⟨#[]⟩) (.slice none 0 0)) Tryd.underlying25 size_term
    · exact spPost_no HNo.out (four_bel HB1.out (show w.heap.size ≤ w.heap.size + 1 + 1 by omega) _ _ _ _)
  have HOk := hid hok
  cases hox : termOk x
  · have HOx := hid hox
    have HNo := hid (show putOk t s x = false by rw [putOk, hok, hox]; simp)
    clear hok hox
    go_enter Tryd.func18, Tryd.ntmps18
    go_wp2_with fail
    refine (validTerm_v HP.out (HR.out.on HB0.out) HWd.out HOk.out).mono ?_
    rintro e w1 ⟨rfl, hb1⟩
    have HB1 := hid (HB0.out.trans (hb1.mono HB0.out.size))
    have HX1 := hid (HX0.out.on hb1)
    have HY1 := hid (HY0.out.on hb1)
    have HZ1 := hid (HZ0.out.on hb1)
    clear hb1
    have e0 := HY1.out.cell 0
    have e1 := HY1.out.cell 1
    have e2 := HY1.out.cell 2
    have e3 := HY1.out.cell 3
    simp at e0 e1 e2 e3
    go_wp2_with fail
    refine (validTerm_v HQ.out (HRx.out.on HB1.out) HWx.out HOx.out).mono ?_
    rintro e w2 ⟨rfl, hb2⟩
    have HB2 := hid (HB1.out.trans (hb2.mono HB1.out.size))
    have HX2 := hid (HX1.out.on hb2)
    have HY2 := hid (HY1.out.on hb2)
    have HZ2 := hid (HZ1.out.on hb2)
    clear hb2 e0 e1 e2 e3
    have r0 := HZ2.out.cell 0
    have r1 := HZ2.out.cell 1
    have r2 := HZ2.out.cell 2
    have r3 := HZ2.out.cell 3
    simp at r0 r1 r2 r3
    have hfr := HZ2.out.free
    go_wp2_with fail
    clear r0 r1 r2 r3 hfr
    refine bodyPost_ret (v := .tuple #[.agg #[.int .i64 0, .int .i64 0, .string ⟨#[]⟩, .slice none 0 0], .bool false]) ?_ rfl ?_
    · exact results_cell_tmp Tryd.results18 _ _ (w.heap.size + 1 + 1) _ _ rfl (four_row HZ2.out (.int .i64 0) (.int .i64 0) (.string ⟨#[]⟩) (.slice none 0 0)) Tryd.underlying25 size_term
    · exact spPost_no HNo.out (four_bel HB2.out (show w.heap.size ≤ w.heap.size + 1 + 1 by omega) _ _ _ _)
  have HOx := hid hox
  cases hfn : freeName s
  · have HFn := hid hfn
    have HNo := hid (show putOk t s x = false by rw [putOk, hok, hfn]; rfl)
    clear hok hox hfn
    go_enter Tryd.func18, Tryd.ntmps18
    go_wp2_with fail
    refine (validTerm_v HP.out (HR.out.on HB0.out) HWd.out HOk.out).mono ?_
    rintro e w1 ⟨rfl, hb1⟩
    have HB1 := hid (HB0.out.trans (hb1.mono HB0.out.size))
    have HX1 := hid (HX0.out.on hb1)
    have HY1 := hid (HY0.out.on hb1)
    have HZ1 := hid (HZ0.out.on hb1)
    clear hb1
    have e0 := HY1.out.cell 0
    have e1 := HY1.out.cell 1
    have e2 := HY1.out.cell 2
    have e3 := HY1.out.cell 3
    simp at e0 e1 e2 e3
    go_wp2_with fail
    refine (validTerm_v HQ.out (HRx.out.on HB1.out) HWx.out HOx.out).mono ?_
    rintro e w2 ⟨rfl, hb2⟩
    have HB2 := hid (HB1.out.trans (hb2.mono HB1.out.size))
    have HX2 := hid (HX1.out.on hb2)
    have HY2 := hid (HY1.out.on hb2)
    have HZ2 := hid (HZ1.out.on hb2)
    clear hb2 e0 e1 e2 e3
    go_wp2_with fail
    refine (isVar_c s _ (by omega)).mono ?_
    rw [HFn.out]
    rintro e w3 ⟨rfl, hb3⟩
    have HB3 := hid (HB2.out.trans (hb3.mono HB2.out.size))
    have HX3 := hid (HX2.out.on hb3)
    have HY3 := hid (HY2.out.on hb3)
    have HZ3 := hid (HZ2.out.on hb3)
    clear hb3
    have r0 := HZ3.out.cell 0
    have r1 := HZ3.out.cell 1
    have r2 := HZ3.out.cell 2
    have r3 := HZ3.out.cell 3
    simp at r0 r1 r2 r3
    have hfr := HZ3.out.free
    go_wp2_with fail
    clear r0 r1 r2 r3 hfr
    refine bodyPost_ret (v := .tuple #[.agg #[.int .i64 0, .int .i64 0, .string ⟨#[]⟩, .slice none 0 0], .bool false]) ?_ rfl ?_
    · exact results_cell_tmp Tryd.results18 _ _ (w.heap.size + 1 + 1) _ _ rfl (four_row HZ3.out (.int .i64 0) (.int .i64 0) (.string ⟨#[]⟩) (.slice none 0 0)) Tryd.underlying25 size_term
    · exact spPost_no HNo.out (four_bel HB3.out (show w.heap.size ≤ w.heap.size + 1 + 1 by omega) _ _ _ _)
  have HFn := hid hfn
  clear hok hox hfn
  case true =>
    go_enter Tryd.func18, Tryd.ntmps18
    go_wp2_with fail
    refine (validTerm_v HP.out (HR.out.on HB0.out) HWd.out HOk.out).mono ?_
    rintro e w1 ⟨rfl, hb1⟩
    have HB1 := hid (HB0.out.trans (hb1.mono HB0.out.size))
    have HX1 := hid (HX0.out.on hb1)
    have HY1 := hid (HY0.out.on hb1)
    have HZ1 := hid (HZ0.out.on hb1)
    clear hb1
    have e0 := HY1.out.cell 0
    have e1 := HY1.out.cell 1
    have e2 := HY1.out.cell 2
    have e3 := HY1.out.cell 3
    simp at e0 e1 e2 e3
    go_wp2_with fail
    refine (validTerm_v HQ.out (HRx.out.on HB1.out) HWx.out HOx.out).mono ?_
    rintro e w2 ⟨rfl, hb2⟩
    have HB2 := hid (HB1.out.trans (hb2.mono HB1.out.size))
    have HX2 := hid (HX1.out.on hb2)
    have HY2 := hid (HY1.out.on hb2)
    have HZ2 := hid (HZ1.out.on hb2)
    clear hb2 e0 e1 e2 e3
    go_wp2_with fail
    refine (isVar_c s _ (by omega)).mono ?_
    rw [HFn.out]
    rintro e w3 ⟨rfl, hb3⟩
    have HB3 := hid (HB2.out.trans (hb3.mono HB2.out.size))
    have HX3 := hid (HX2.out.on hb3)
    have HY3 := hid (HY2.out.on hb3)
    have HZ3 := hid (HZ2.out.on hb3)
    clear hb3
    have d0 := HX3.out.cell 0
    have d1 := HX3.out.cell 1
    have d2 := HX3.out.cell 2
    have d3 := HX3.out.cell 3
    have e0 := HY3.out.cell 0
    have e1 := HY3.out.cell 1
    have e2 := HY3.out.cell 2
    have e3 := HY3.out.cell 3
    simp at d0 d1 d2 d3 e0 e1 e2 e3
    go_wp2_with fail
    rw [← HP.out.val, ← HQ.out.val]
    refine (replaced_c s x m (by have := ok_wide HOx.out; omega) 14 n t _ _ _ (HR.out.on HB3.out) (termOk_bd HOk.out).1 (HRx.out.on HB3.out)).mono ?_
    rintro e w4 ⟨v4, rfl, hown4, hb4⟩
    rw [HP.out.val, HQ.out.val]
    have HWp := hid (put_small (s := s) HOk.out HOx.out)
    have HRs := hid (show putR t s x = if putOk t s x then putT s x 14 t else tz from rfl)
    have HPo := hid (show putOk t s x = termOk (putT s x 14 t) by rw [putOk, HOk.out, HFn.out, HOx.out]; rfl)
    obtain ⟨t3, ht3⟩ : ∃ r, putT s x 14 t = r := ⟨_, rfl⟩
    rw [ht3] at hown4 HWp HRs HPo ⊢
    clear ht3
    obtain ⟨s4, c4, rfl⟩ := hown4.slice
    obtain ⟨z0, z1, z2, lz, hq3⟩ := Pt.of t3
    rw [hq3.val]
    have HQ3 := hid hq3
    have HOwn4 := hid hown4
    rw [hq3.l] at HOwn4 ⊢
    have HLo := hid HZ3.out.lt
    have HLe := hid HB3.out.size
    have HB4 := hid (HB3.out.trans (hb4.mono HB3.out.size))
    have HZ4 := hid (HZ3.out.on hb4)
    have hA5 := (Below.refl w4.heap.size w4).alloc (Nat.le_refl _) (.cells #[.int .i64 z0, .int .i64 z1, .string z2, .slice s4 lz c4] 25)
    have HB5 := hid (HB4.out.trans (hA5.mono HB4.out.size))
    have HZ5 := hid (HZ4.out.on hA5)
    have HO5 := hid (HOwn4.out.on hA5)
    have HV5 := hid (Row.new w4 25 #[.int .i64 z0, .int .i64 z1, .string z2, .slice s4 lz c4])
    clear hq3 hown4 hb4 hA5 d0 d1 d2 d3 e0 e1 e2 e3
    go_wp2_with fail
    cases hob : termOk t3
    all_goals
      have HOb := hid hob
      clear hob
      refine (validTerm_v HQ3.out HO5.out.rd (by have := HWp.out; omega) HOb.out).mono ?_
      rintro e w6 ⟨rfl, hb6⟩
      have HB6 := hid (HB5.out.trans (hb6.mono HB5.out.size))
      have HZ6 := hid (HZ5.out.on hb6)
      have HV6 := hid (HV5.out.on hb6)
      have HO6 := hid (HO5.out.on hb6)
      have hz6 := hb6.size
      simp only [World.size_alloc] at hz6
      clear hb6
    · have HNo := hid (show putOk t s x = false by rw [HPo.out, HOb.out])
      have r0 := HZ6.out.cell 0
      have r1 := HZ6.out.cell 1
      have r2 := HZ6.out.cell 2
      have r3 := HZ6.out.cell 3
      simp at r0 r1 r2 r3
      have hfr := HZ6.out.free
      go_wp2_with fail
      clear r0 r1 r2 r3 hfr
      refine bodyPost_ret (v := .tuple #[.agg #[.int .i64 0, .int .i64 0, .string ⟨#[]⟩, .slice none 0 0], .bool false]) ?_ rfl ?_
      · exact results_cell_tmp Tryd.results18 _ _ (w.heap.size + 1 + 1) _ _ rfl (four_row HZ6.out (.int .i64 0) (.int .i64 0) (.string ⟨#[]⟩) (.slice none 0 0)) Tryd.underlying25 size_term
      · exact spPost_no HNo.out (four_bel HB6.out (show w.heap.size ≤ w.heap.size + 1 + 1 by omega) _ _ _ _)
    · have HYes := hid (show putOk t s x = true by rw [HPo.out, HOb.out])
      have r0 := HZ6.out.cell 0
      have r1 := HZ6.out.cell 1
      have r2 := HZ6.out.cell 2
      have r3 := HZ6.out.cell 3
      have v0 := HV6.out.cell 0
      have v1 := HV6.out.cell 1
      have v2 := HV6.out.cell 2
      have v3 := HV6.out.cell 3
      simp at r0 r1 r2 r3 v0 v1 v2 v3
      have hfr := HZ6.out.free
      have hlv := HV6.out.lt
      have hlz := HZ6.out.lt
      go_wp2_with fail
      clear r0 r1 r2 r3 v0 v1 v2 v3 hfr
      have HR6 := hid (four_row HZ6.out (.int .i64 z0) (.int .i64 z1) (.string z2) (.slice s4 lz c4))
      refine bodyPost_ret (v := .tuple #[.agg #[.int .i64 z0, .int .i64 z1, .string z2, .slice s4 lz c4], .bool true]) ?_ rfl ?_
      · exact results_cell_tmp Tryd.results18 _ _ (w.heap.size + 1 + 1) _ _ rfl HR6.out Tryd.underlying25 size_term
      · have hR : putR t s x = t3 := by rw [HRs.out, HYes.out]; rfl
        refine ⟨.slice s4 lz c4, by rw [hR, HYes.out, HQ3.out.val], ?_, four_bel HB6.out (by omega) _ _ _ _⟩
        rw [hR, four_size]
        refine (HO6.out.keep (fun b h1 h2 h3 => ?_)).widen HLe.out (by omega)
        rw [four_far _ _ _ (by have := HLo.out; omega)]
end Go.Proofs.YtgenojpdjplccaaDoor.Um
