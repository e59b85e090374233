/- Sound of the model. -/
import Derived.Test.YtihhpgklpichgaaGreatWs3
import Derived.Test.YtihhpgklpichgaaGreatWy6
set_option linter.unusedSimpArgs false
set_option linter.unusedVariables false
namespace Go.Proofs.YtihhpgklpichgaaGreat.Wk
open Go.RowKit Pl Ft Mm In C2 Im Sw

theorem lostG_gm (code S : List Int) : lostG code (Gm code true) S = lostG code (Gw code) S := by
  unfold lostG
  apply pdec_iff
  constructor
  · rintro ⟨p, h1, h2⟩
    exact ⟨p, (Rc.congr (fun p q => gm_gw)).1 h1, h2⟩
  · rintro ⟨p, h1, h2⟩
    exact ⟨p, (Rc.congr (fun p q => gm_gw)).2 h1, h2⟩
set_option maxRecDepth 100000 in
set_option maxHeartbeats 2000000 in
theorem ssound_c (m : Img) (vc vd vn : Value) (w : World) (h : ICells w vc vd vn m) (hok : imageOk m = true) :
    Calls Tryz.prog 67 #[imgVal vc vd vn m] w fun e w' => e = .returned (.bool (!(lostG m.code (Gw m.code) [m.entry]))) ∧ Below w.heap.size w w' := by
  obtain ⟨ac, cc, rfl⟩ := rd_slice h.c
  obtain ⟨ad, cd, rfl⟩ := rd_slice h.d
  obtain ⟨an, cn, rfl⟩ := nrd_slice h.n
  have HI := hid h
  have HBd := hid (imageOk_bd hok)
  clear h hok
  have hl2 := HBd.out.c1
  have he0 := HBd.out.e0
  have he1 := HBd.out.e1
  have hV : imgVal (.slice ac m.code.length cc) (.slice ad m.data.length cd) (.slice an m.names.length cn) m = .agg #[.slice ac m.code.length cc, .int .i64 m.entry, .int .i64 m.room, .slice ad m.data.length cd, .slice an m.names.length cn] := rfl
  rw [hV]
  clear hV
  have hb1 := (Below.refl w.heap.size w).alloc (Nat.le_refl _) (.cells #[.slice ac m.code.length cc, .int .i64 m.entry, .int .i64 m.room, .slice ad m.data.length cd, .slice an m.names.length cn] 30)
  have HB2 := hid (hb1.alloc hb1.size (.cells #[.int .i64 m.entry] 3))
  have HRs := hid (Rd.of_own (own_lit (w.alloc (.cells #[.slice ac m.code.length cc, .int .i64 m.entry, .int .i64 m.room, .slice ad m.data.length cd, .slice an m.names.length cn] 30)) [m.entry] #[.int .i64 m.entry] rfl (by simp) 1 rfl))
  clear hb1
  go_enter Tryz.func67, Tryz.ntmps67
  go_wp2_with fail
  refine (walk_c m.code [m.entry] true ac _ cc _ _ (HI.out.on HB2.out).c (by simpa using HRs.out) HBd.out.cb hl2 (by omega) (fun q hq => by obtain rfl : q = m.entry := (by simpa using hq); omega) (by simp)).mono ?_
  rintro e w3 ⟨v, ms, rfl, hown, hms, hb3⟩
  have HB3 := hid (HB2.out.trans (hb3.mono HB2.out.size))
  rw [lostIn_eq hms, lostG_gm]
  obtain ⟨s, c, rfl⟩ := own_slice hown
  clear hown hms hb3
  go_wp2_with fail
  go_ret
  exact ⟨rfl, HB3.out⟩
end Go.Proofs.YtihhpgklpichgaaGreat.Wk
