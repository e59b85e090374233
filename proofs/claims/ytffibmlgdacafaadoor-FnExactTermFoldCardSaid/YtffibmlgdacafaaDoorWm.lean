/- Simpler terms: foldBin, foldOnce of the model. -/
import Derived.Test.YtffibmlgdacafaaDoorWl
set_option linter.unusedSimpArgs false
set_option linter.unusedVariables false
namespace Go.Proofs.YtffibmlgdacafaaDoor.Um
open Go.RowKit Pl Ft Mm In C2 Im

set_option maxRecDepth 100000 in
set_option maxHeartbeats 10000000 in
theorem foldBin_c (m h : Nat) (P : Nat → Prop) (t : Tm) (kv : Value) (w : World) (hf : t.form = true) (hk : t.kind = 2) (hr : KP P w (m + 1) kv t.kids) (h14 : h ≤ 14)
    (hsh : shape h (t.kids.getD 0 tz) = true ∧ shape h (t.kids.getD 1 tz) = true) (hwd : (t.kids.getD 0 tz).wide ≤ 1048576 ∧ (t.kids.getD 1 tz).wide ≤ 1048576) :
    Calls Tryd.prog 119 #[tmVal t kv] w (FoldR (m + 1) P (onceT t) w) := by
  have HWd := hid hwd
  have HSh := hid hsh
  obtain ⟨hl2, ho, hz⟩ := bin_form hf hk
  obtain ⟨m', r, o, ct, hmm, rfl, hrl, hc⟩ := hr.part (by omega)
  obtain rfl : m = m' := by omega
  obtain ⟨u0, c0, c1, c2, c3, k4⟩ := hc 0 (by omega)
  obtain ⟨u1, e0, e1, e2, e3, k5⟩ := hc 1 (by omega)
  simp only [Nat.zero_mul, Nat.one_mul, Nat.add_zero] at c0 c1 c2 c3 e0 e1 e2 e3
  have HOnc := hid (show onceT t = onceBin (sameT 14 (t.kids.getD 0 tz) (t.kids.getD 1 tz)) (t.kids.getD 0 tz) t.text (t.kids.getD 1 tz) by rw [onceT, if_pos hk])
  obtain ⟨a, ha⟩ : ∃ k, t.kids.getD 0 tz = k := ⟨_, rfl⟩
  obtain ⟨b, hb⟩ : ∃ k, t.kids.getD 1 tz = k := ⟨_, rfl⟩
  rw [ha] at c0 c1 c2 k4 HOnc HWd HSh
  rw [hb] at e0 e1 e2 k5 HOnc HWd HSh
  obtain ⟨sa, ca, rfl⟩ := k4.slice
  obtain ⟨sb, cb, rfl⟩ := k5.slice
  obtain ⟨t0, t1, t2, lt, hpt⟩ := Pt.of t
  obtain ⟨x0, x1, x2, la, hp⟩ := Pt.of a
  obtain ⟨y0, y1, y2, lb, hq⟩ := Pt.of b
  have HP := hid hp
  have HQ := hid hq
  rw [hpt.s] at ho HOnc
  have HOp := hid ho
  have hlt : lt = 2 := hpt.l.symm.trans hl2
  subst hlt
  rw [hp.k] at c0
  rw [hp.n] at c1
  rw [hp.s] at c2
  rw [hp.l] at c3 k4
  rw [hq.k] at e0
  rw [hq.n] at e1
  rw [hq.s] at e2
  rw [hq.l] at e3 k5
  have HA := hid k4
  have HB := hid k5
  have HOn := hid (show onceT t = (if x0 = 0 ∧ y0 = 0 then some (nT (opVal t2 x1 y1)) else if x0 = 0 ∧ opIs t2 [[43], [42], [38], [124], [94], [61, 61]] = true then some (binT b t2 a) else if y0 = 0 then rightT a t2 y1 else if a.plain = true ∧ sameT 14 a b = true then twiceT a t2 else none) by rw [HOnc.out, onceBin, hp.k, hq.k, hp.n, hq.n])
  rw [hpt.val, hl2]
  have HB0 := hid (((Below.refl w.heap.size w).alloc (Nat.le_refl _) (.cells #[.int .i64 t0, .int .i64 t1, .string t2, .slice (some ⟨r, o, none⟩) 2 ct] 28)).alloc (by simp) (.cells #[.int .i64 0, .int .i64 0, .string ⟨#[]⟩, .slice none 0 0] 28))
  have HBx := hid (HB0.out.alloc HB0.out.size (.cells #[.int .i64 x0, .int .i64 x1, .string x2, .slice sa la ca] 28))
  have HBy := hid (HBx.out.alloc HBx.out.size (.cells #[.int .i64 y0, .int .i64 y1, .string y2, .slice sb lb cb] 28))
  have q0 := (HB0.out.cell (p := ⟨r, o, none⟩) hrl).trans c0
  have q1 := (HB0.out.cell (p := ⟨r, o + 1, none⟩) hrl).trans c1
  have q2 := (HB0.out.cell (p := ⟨r, o + 2, none⟩) hrl).trans c2
  have q3 := (HB0.out.cell (p := ⟨r, o + 3, none⟩) hrl).trans c3
  have q4 := (HBx.out.cell (p := ⟨r, o + 4, none⟩) hrl).trans e0
  have q5 := (HBx.out.cell (p := ⟨r, o + 4 + 1, none⟩) hrl).trans e1
  have q6 := (HBx.out.cell (p := ⟨r, o + 4 + 2, none⟩) hrl).trans e2
  have q7 := (HBx.out.cell (p := ⟨r, o + 4 + 3, none⟩) hrl).trans e3
  have HT3 := hid ((((Row.new w 28 #[.int .i64 t0, .int .i64 t1, .string t2, .slice (some ⟨r, o, none⟩) 2 ct]).alloc (.cells #[.int .i64 0, .int .i64 0, .string ⟨#[]⟩, .slice none 0 0] 28)).alloc (.cells #[.int .i64 x0, .int .i64 x1, .string x2, .slice sa la ca] 28)).alloc (.cells #[.int .i64 y0, .int .i64 y1, .string y2, .slice sb lb cb] 28))
  have HZ3 := hid (((Row.new (w.alloc (.cells #[.int .i64 t0, .int .i64 t1, .string t2, .slice (some ⟨r, o, none⟩) 2 ct] 28)) 28 #[.int .i64 0, .int .i64 0, .string ⟨#[]⟩, .slice none 0 0]).alloc (.cells #[.int .i64 x0, .int .i64 x1, .string x2, .slice sa la ca] 28)).alloc (.cells #[.int .i64 y0, .int .i64 y1, .string y2, .slice sb lb cb] 28))
  have HX3 := hid ((Row.new ((w.alloc (.cells #[.int .i64 t0, .int .i64 t1, .string t2, .slice (some ⟨r, o, none⟩) 2 ct] 28)).alloc (.cells #[.int .i64 0, .int .i64 0, .string ⟨#[]⟩, .slice none 0 0] 28)) 28 #[.int .i64 x0, .int .i64 x1, .string x2, .slice sa la ca]).alloc (.cells #[.int .i64 y0, .int .i64 y1, .string y2, .slice sb lb cb] 28))
  have HY3 := hid (Row.new (((w.alloc (.cells #[.int .i64 t0, .int .i64 t1, .string t2, .slice (some ⟨r, o, none⟩) 2 ct] 28)).alloc (.cells #[.int .i64 0, .int .i64 0, .string ⟨#[]⟩, .slice none 0 0] 28)).alloc (.cells #[.int .i64 x0, .int .i64 x1, .string x2, .slice sa la ca] 28)) 28 #[.int .i64 y0, .int .i64 y1, .string y2, .slice sb lb cb])
  have HB3 := HBy
  simp only [World.size_alloc] at HZ3 HX3 HY3
  clear hwd hsh hc c0 c1 c2 c3 e0 e1 e2 e3 k4 k5 ha hb hpt hp hq ho hl2 hz hf hk hr hmm HOnc HBx HB0 HBy
  by_cases hx0 : x0 = 0
  · by_cases hy0 : y0 = 0
    · have hxw : isW x1 = true := isW_of (by have := num_of HSh.out.1 (by rw [HP.out.k]; exact hx0); rwa [HP.out.n] at this)
      have hyw : isW y1 = true := isW_of (by have := num_of HSh.out.2 (by rw [HQ.out.k]; exact hy0); rwa [HQ.out.n] at this)
      have HO := hid (show onceT t = some (nT (opVal t2 x1 y1)) by rw [HOn.out, if_pos ⟨hx0, hy0⟩])
      have HVw := hid (opVal_word HOp.out hxw hyw)
      have HBi := hid (fun (wx : World) => binary_c t2 x1 y1 wx HOp.out hxw hyw)
      subst hx0
      subst hy0
      clear hxw hyw
      go_enter Tryd.func119, Tryd.ntmps119
      go_wp2_with fail
      clear q0 q1 q2 q3 q4 q5 q6 q7
      refine (HBi.out _).mono ?_
      rintro e w4 ⟨rfl, hbx⟩
      have HB4 := hid (HB3.out.trans (hbx.mono HB3.out.size))
      have HT4 := hid (HT3.out.on hbx)
      have HZ4 := hid (HZ3.out.on hbx)
      have HX4 := hid (HX3.out.on hbx)
      have HY4 := hid (HY3.out.on hbx)
      obtain ⟨nv, hnv⟩ : ∃ q, opVal t2 x1 y1 = q := ⟨_, rfl⟩
      rw [hnv] at HO HVw ⊢
      clear hnv HBi
      clear hbx
      have dt0 := HT4.out.cell 0
      have dt1 := HT4.out.cell 1
      have dt2 := HT4.out.cell 2
      have dt3 := HT4.out.cell 3
      simp at dt0 dt1 dt2 dt3
      have dz0 := HZ4.out.cell 0
      have dz1 := HZ4.out.cell 1
      have dz2 := HZ4.out.cell 2
      have dz3 := HZ4.out.cell 3
      simp at dz0 dz1 dz2 dz3
      have dx0 := HX4.out.cell 0
      have dx1 := HX4.out.cell 1
      have dx2 := HX4.out.cell 2
      have dx3 := HX4.out.cell 3
      simp at dx0 dx1 dx2 dx3
      have dy0 := HY4.out.cell 0
      have dy1 := HY4.out.cell 1
      have dy2 := HY4.out.cell 2
      have dy3 := HY4.out.cell 3
      simp at dy0 dy1 dy2 dy3
      have hfz := HZ4.out.free
      have hvm : nv % 65536 = nv := by have := HVw.out; omega
      have HNm := hid (fun (wx : World) => num_w nv hvm wx)
      clear hvm
      go_wp2_with fail
      refine (HNm.out _).mono ?_
      rintro e w5 ⟨rfl, hbx⟩
      have HB5 := hid (HB4.out.trans (hbx.mono HB4.out.size))
      have HT5 := hid (HT4.out.on hbx)
      have HZ5 := hid (HZ4.out.on hbx)
      have HX5 := hid (HX4.out.on hbx)
      have HY5 := hid (HY4.out.on hbx)
      rw [nT_val]
      clear hbx
      clear dt0 dt1 dt2 dt3 dz0 dz1 dz2 dz3 dx0 dx1 dx2 dx3 dy0 dy1 dy2 dy3 hfz
      have dt0 := HT5.out.cell 0
      have dt1 := HT5.out.cell 1
      have dt2 := HT5.out.cell 2
      have dt3 := HT5.out.cell 3
      simp at dt0 dt1 dt2 dt3
      have dz0 := HZ5.out.cell 0
      have dz1 := HZ5.out.cell 1
      have dz2 := HZ5.out.cell 2
      have dz3 := HZ5.out.cell 3
      simp at dz0 dz1 dz2 dz3
      have dx0 := HX5.out.cell 0
      have dx1 := HX5.out.cell 1
      have dx2 := HX5.out.cell 2
      have dx3 := HX5.out.cell 3
      simp at dx0 dx1 dx2 dx3
      have dy0 := HY5.out.cell 0
      have dy1 := HY5.out.cell 1
      have dy2 := HY5.out.cell 2
      have dy3 := HY5.out.cell 3
      simp at dy0 dy1 dy2 dy3
      have hfz := HZ5.out.free
      go_wp2_with fail
      clear dt0 dt1 dt2 dt3 dz0 dz1 dz2 dz3 dx0 dx1 dx2 dx3 dy0 dy1 dy2 dy3 hfz
      refine bodyPost_ret (v := .tuple #[.agg #[.int .i64 0, .int .i64 nv, .string ⟨#[]⟩, .slice none 0 0], .bool true]) ?_ rfl ?_
      · exact results_cell_tmp Tryd.results119 _ _ (w.heap.size + 1) _ _ rfl (four_row HZ5.out (.int .i64 0) (.int .i64 nv) (.string ⟨#[]⟩) (.slice none 0 0)) Tryd.underlying28 size_term
      · exact foldr_num HO.out (four_bel HB5.out (show w.heap.size ≤ w.heap.size + 1 by omega) _ _ _ _)
    obtain ⟨bt, hbt⟩ : ∃ q, opIs t2 [[43], [42], [38], [124], [94], [61, 61]] = q := ⟨_, rfl⟩
    have HTu := hid (fun (wx : World) => (show Calls Tryd.prog 144 #[.string t2] wx (fun e w' => e = .returned (.bool bt) ∧ Below wx.heap.size wx w') from hbt ▸ turns_c t2 wx HOp.out))
    cases bt
    · have HO := hid (show onceT t = (if a.plain = true ∧ sameT 14 a b = true then twiceT a t2 else none) by rw [HOn.out, if_neg (fun h => hy0 h.2), if_neg (fun h => by rw [hbt] at h; exact absurd h.2 (by decide)), if_neg hy0])
      have hb1 : (y0 == 0) = false := by simpa using hy0
      clear hbt hy0
      subst hx0
      go_enter Tryd.func119, Tryd.ntmps119
      go_wp2_with fail
      clear q0 q1 q2 q3 q4 q5 q6 q7
      refine (HTu.out _).mono ?_
      rintro e w4 ⟨rfl, hbx⟩
      have HB4 := hid (HB3.out.trans (hbx.mono HB3.out.size))
      have HT4 := hid (HT3.out.on hbx)
      have HZ4 := hid (HZ3.out.on hbx)
      have HX4 := hid (HX3.out.on hbx)
      have HY4 := hid (HY3.out.on hbx)
      clear hbx
      have dt0 := HT4.out.cell 0
      have dt1 := HT4.out.cell 1
      have dt2 := HT4.out.cell 2
      have dt3 := HT4.out.cell 3
      simp at dt0 dt1 dt2 dt3
      have dz0 := HZ4.out.cell 0
      have dz1 := HZ4.out.cell 1
      have dz2 := HZ4.out.cell 2
      have dz3 := HZ4.out.cell 3
      simp at dz0 dz1 dz2 dz3
      have dx0 := HX4.out.cell 0
      have dx1 := HX4.out.cell 1
      have dx2 := HX4.out.cell 2
      have dx3 := HX4.out.cell 3
      simp at dx0 dx1 dx2 dx3
      have dy0 := HY4.out.cell 0
      have dy1 := HY4.out.cell 1
      have dy2 := HY4.out.cell 2
      have dy3 := HY4.out.cell 3
      simp at dy0 dy1 dy2 dy3
      have hfz := HZ4.out.free
      go_wp2_with fail
      obtain ⟨bp, hbp⟩ : ∃ q, a.plain = q := ⟨_, rfl⟩
      have HBp := hid hbp
      have HPl := hid (fun (wx : World) (hr : KRd wx m (.slice sa la ca) a.kids) => (show Calls Tryd.prog 146 #[.agg #[.int .i64 0, .int .i64 x1, .string x2, .slice sa la ca]] wx (fun e w' => e = .returned (.bool bp) ∧ Below wx.heap.size wx w') from hbp ▸ HP.out.val (.slice sa la ca) ▸ plain_c h m a (.slice sa la ca) wx hr HSh.out.1))
      clear hbp
      refine (HPl.out _ (HA.out.rd.on HB4.out)).mono ?_
      rintro e w5 ⟨rfl, hbx⟩
      have HB5 := hid (HB4.out.trans (hbx.mono HB4.out.size))
      have HT5 := hid (HT4.out.on hbx)
      have HZ5 := hid (HZ4.out.on hbx)
      have HX5 := hid (HX4.out.on hbx)
      have HY5 := hid (HY4.out.on hbx)
      clear hbx
      have dt0 := HT5.out.cell 0
      have dt1 := HT5.out.cell 1
      have dt2 := HT5.out.cell 2
      have dt3 := HT5.out.cell 3
      simp at dt0 dt1 dt2 dt3
      have dz0 := HZ5.out.cell 0
      have dz1 := HZ5.out.cell 1
      have dz2 := HZ5.out.cell 2
      have dz3 := HZ5.out.cell 3
      simp at dz0 dz1 dz2 dz3
      have dx0 := HX5.out.cell 0
      have dx1 := HX5.out.cell 1
      have dx2 := HX5.out.cell 2
      have dx3 := HX5.out.cell 3
      simp at dx0 dx1 dx2 dx3
      have dy0 := HY5.out.cell 0
      have dy1 := HY5.out.cell 1
      have dy2 := HY5.out.cell 2
      have dy3 := HY5.out.cell 3
      simp at dy0 dy1 dy2 dy3
      have hfz := HZ5.out.free
      cases bp
      · have HN := hid (show onceT t = none by rw [HO.out, HBp.out]; simp)
        go_wp2_with fail
        clear dt0 dt1 dt2 dt3 dz0 dz1 dz2 dz3 dx0 dx1 dx2 dx3 dy0 dy1 dy2 dy3 hfz
        refine bodyPost_ret (v := .tuple #[.agg #[.int .i64 0, .int .i64 0, .string ⟨#[]⟩, .slice none 0 0], .bool false]) ?_ rfl ?_
        · exact results_cell_tmp Tryd.results119 _ _ (w.heap.size + 1) _ _ rfl (four_row HZ5.out (.int .i64 0) (.int .i64 0) (.string ⟨#[]⟩) (.slice none 0 0)) Tryd.underlying28 size_term
        · rw [HN.out]
          exact foldr_end (t := tz) (a := none) (c := 0) rfl (fun r hr => by cases hr) (four_bel HB5.out (show w.heap.size ≤ w.heap.size + 1 by omega) _ _ _ _) rfl
      go_wp2_with fail
      obtain ⟨bs, hbs⟩ : ∃ q, sameT 14 a b = q := ⟨_, rfl⟩
      have HBs := hid hbs
      have HSm := hid (fun (wx : World) (h1 : KRd wx m (.slice sa la ca) a.kids) (h2 : KRd wx m (.slice sb lb cb) b.kids) => (show Calls Tryd.prog 57 #[.agg #[.int .i64 0, .int .i64 x1, .string x2, .slice sa la ca], .agg #[.int .i64 y0, .int .i64 y1, .string y2, .slice sb lb cb]] wx (fun e w' => e = .returned (.bool bs) ∧ Below wx.heap.size wx w') from by
        have := sSameTerm_c 14 m m a b _ _ wx h1 h2 HWd.out.1 HWd.out.2 (shape_up HSh.out.1 h14)
        rw [hbs, HP.out.val, HQ.out.val] at this
        exact this))
      clear hbs
      refine (HSm.out _ (HA.out.rd.on HB5.out) (HB.out.rd.on HB5.out)).mono ?_
      rintro e w6 ⟨rfl, hbx⟩
      have HB6 := hid (HB5.out.trans (hbx.mono HB5.out.size))
      have HT6 := hid (HT5.out.on hbx)
      have HZ6 := hid (HZ5.out.on hbx)
      have HX6 := hid (HX5.out.on hbx)
      have HY6 := hid (HY5.out.on hbx)
      clear hbx
      clear dt0 dt1 dt2 dt3 dz0 dz1 dz2 dz3 dx0 dx1 dx2 dx3 dy0 dy1 dy2 dy3 hfz
      have dt0 := HT6.out.cell 0
      have dt1 := HT6.out.cell 1
      have dt2 := HT6.out.cell 2
      have dt3 := HT6.out.cell 3
      simp at dt0 dt1 dt2 dt3
      have dz0 := HZ6.out.cell 0
      have dz1 := HZ6.out.cell 1
      have dz2 := HZ6.out.cell 2
      have dz3 := HZ6.out.cell 3
      simp at dz0 dz1 dz2 dz3
      have dx0 := HX6.out.cell 0
      have dx1 := HX6.out.cell 1
      have dx2 := HX6.out.cell 2
      have dx3 := HX6.out.cell 3
      simp at dx0 dx1 dx2 dx3
      have dy0 := HY6.out.cell 0
      have dy1 := HY6.out.cell 1
      have dy2 := HY6.out.cell 2
      have dy3 := HY6.out.cell 3
      simp at dy0 dy1 dy2 dy3
      have hfz := HZ6.out.free
      cases bs
      · have HN := hid (show onceT t = none by rw [HO.out, HBs.out]; simp)
        go_wp2_with fail
        clear dt0 dt1 dt2 dt3 dz0 dz1 dz2 dz3 dx0 dx1 dx2 dx3 dy0 dy1 dy2 dy3 hfz
        refine bodyPost_ret (v := .tuple #[.agg #[.int .i64 0, .int .i64 0, .string ⟨#[]⟩, .slice none 0 0], .bool false]) ?_ rfl ?_
        · exact results_cell_tmp Tryd.results119 _ _ (w.heap.size + 1) _ _ rfl (four_row HZ6.out (.int .i64 0) (.int .i64 0) (.string ⟨#[]⟩) (.slice none 0 0)) Tryd.underlying28 size_term
        · rw [HN.out]
          exact foldr_end (t := tz) (a := none) (c := 0) rfl (fun r hr => by cases hr) (four_bel HB6.out (show w.heap.size ≤ w.heap.size + 1 by omega) _ _ _ _) rfl
      have HO := hid (show onceT t = twiceT a t2 by rw [HO.out, HBs.out, HBp.out]; simp)
      go_wp2_with fail
      have HTw := hid (fun (wx : World) (h1 : KP (fun b => P b ∧ b < w.heap.size) wx m (.slice sa la ca) a.kids) => (show Calls Tryd.prog 147 #[.string t2, .agg #[.int .i64 0, .int .i64 x1, .string x2, .slice sa la ca]] wx (FoldR m (fun b => P b ∧ b < w.heap.size) (twiceT a t2) wx) from HP.out.val (.slice sa la ca) ▸ foldSame_c m _ a (.slice sa la ca) t2 wx HOp.out h1))
      have HOz := hid (show w.heap.size + 1 < w6.heap.size from HZ6.out.lt)
      refine (HTw.out _ (HA.out.arg HB6.out)).mono ?_
      rintro e w7 ⟨tR, sA, cA, rfl, hown, hbx⟩
      have HB7 := hid (HB6.out.trans (hbx.mono HB6.out.size))
      have HZ7 := hid (HZ6.out.on hbx)
      have HOw := hid hown
      clear hown hbx
      clear dt0 dt1 dt2 dt3 dz0 dz1 dz2 dz3 dx0 dx1 dx2 dx3 dy0 dy1 dy2 dy3 hfz
      obtain ⟨z0, z1, z2, lz, hr⟩ := Pt.of tR
      rw [hr.val]
      rw [hr.l] at HOw ⊢
      have HR := hid hr
      clear hr
      obtain ⟨bo, hbo⟩ : ∃ q, (twiceT a t2).isSome = q := ⟨_, rfl⟩
      have HBo := hid hbo
      rw [hbo]
      clear hbo
      have dz0 := HZ7.out.cell 0
      have dz1 := HZ7.out.cell 1
      have dz2 := HZ7.out.cell 2
      have dz3 := HZ7.out.cell 3
      simp at dz0 dz1 dz2 dz3
      have hfz := HZ7.out.free
      go_wp2_with fail
      clear dz0 dz1 dz2 dz3 hfz
      refine bodyPost_ret (v := .tuple #[.agg #[.int .i64 z0, .int .i64 z1, .string z2, .slice sA lz cA], .bool bo]) ?_ rfl ?_
      · exact results_cell_tmp Tryd.results119 _ _ (w.heap.size + 1) _ _ rfl (four_row HZ7.out (.int .i64 z0) (.int .i64 z1) (.string z2) (.slice sA lz cA)) Tryd.underlying28 size_term
      · rw [HO.out]
        refine foldr_end (t := tR) (a := sA) (c := cA) HBo.out ?_ (four_bel HB7.out (show w.heap.size ≤ w.heap.size + 1 by omega) _ _ _ _) (by rw [HR.out.val, HR.out.l])
        rw [HR.out.l]
        exact foldr_pass (foldr_lvl HOw.out) (Nat.le_succ _) HOz.out _ _ _ _
    · have HO := hid (show onceT t = some (binT b t2 a) by rw [HOn.out, if_neg (fun h => hy0 h.2), if_pos ⟨hx0, hbt⟩])
      have hb1 : (y0 == 0) = false := by simpa using hy0
      clear hbt hy0
      subst hx0
      have HBn := hid (fun (wx : World) => (show Calls Tryd.prog 54 #[.string t2, .agg #[.int .i64 y0, .int .i64 y1, .string y2, .slice sb lb cb], .agg #[.int .i64 0, .int .i64 x1, .string x2, .slice sa la ca]] wx (MadePost (binT b t2 a) [.slice sb lb cb, .slice sa la ca] wx) from HP.out.val (.slice sa la ca) ▸ HQ.out.val (.slice sb lb cb) ▸ bin_c t2 b a (.slice sb lb cb) (.slice sa la ca) wx))
      go_enter Tryd.func119, Tryd.ntmps119
      go_wp2_with fail
      clear q0 q1 q2 q3 q4 q5 q6 q7
      refine (HTu.out _).mono ?_
      rintro e w4 ⟨rfl, hbx⟩
      have HB4 := hid (HB3.out.trans (hbx.mono HB3.out.size))
      have HT4 := hid (HT3.out.on hbx)
      have HZ4 := hid (HZ3.out.on hbx)
      have HX4 := hid (HX3.out.on hbx)
      have HY4 := hid (HY3.out.on hbx)
      clear hbx
      have dt0 := HT4.out.cell 0
      have dt1 := HT4.out.cell 1
      have dt2 := HT4.out.cell 2
      have dt3 := HT4.out.cell 3
      simp at dt0 dt1 dt2 dt3
      have dz0 := HZ4.out.cell 0
      have dz1 := HZ4.out.cell 1
      have dz2 := HZ4.out.cell 2
      have dz3 := HZ4.out.cell 3
      simp at dz0 dz1 dz2 dz3
      have dx0 := HX4.out.cell 0
      have dx1 := HX4.out.cell 1
      have dx2 := HX4.out.cell 2
      have dx3 := HX4.out.cell 3
      simp at dx0 dx1 dx2 dx3
      have dy0 := HY4.out.cell 0
      have dy1 := HY4.out.cell 1
      have dy2 := HY4.out.cell 2
      have dy3 := HY4.out.cell 3
      simp at dy0 dy1 dy2 dy3
      have hfz := HZ4.out.free
      go_wp2_with fail
      refine (HBn.out _).mono ?_
      rintro e w5 ⟨sN, cN, rfl, hrowN, hbx⟩
      have HB5 := hid (HB4.out.trans (hbx.mono HB4.out.size))
      have HT5 := hid (HT4.out.on hbx)
      have HZ5 := hid (HZ4.out.on hbx)
      have HX5 := hid (HX4.out.on hbx)
      have HY5 := hid (HY4.out.on hbx)
      rw [show tmVal (binT b t2 a) (.slice sN (binT b t2 a).kids.length cN) = .agg #[.int .i64 2, .int .i64 0, .string t2, .slice sN 2 cN] from rfl]
      have HRowN := hid (show w5.ownsRow w4.heap.size 28 4 (.slice sN 2 cN) 2 (tCells [b, a] [.slice sb lb cb, .slice sa la ca]) from hrowN)
      clear hrowN
      clear hbx
      clear dt0 dt1 dt2 dt3 dz0 dz1 dz2 dz3 dx0 dx1 dx2 dx3 dy0 dy1 dy2 dy3 hfz
      have dt0 := HT5.out.cell 0
      have dt1 := HT5.out.cell 1
      have dt2 := HT5.out.cell 2
      have dt3 := HT5.out.cell 3
      simp at dt0 dt1 dt2 dt3
      have dz0 := HZ5.out.cell 0
      have dz1 := HZ5.out.cell 1
      have dz2 := HZ5.out.cell 2
      have dz3 := HZ5.out.cell 3
      simp at dz0 dz1 dz2 dz3
      have dx0 := HX5.out.cell 0
      have dx1 := HX5.out.cell 1
      have dx2 := HX5.out.cell 2
      have dx3 := HX5.out.cell 3
      simp at dx0 dx1 dx2 dx3
      have dy0 := HY5.out.cell 0
      have dy1 := HY5.out.cell 1
      have dy2 := HY5.out.cell 2
      have dy3 := HY5.out.cell 3
      simp at dy0 dy1 dy2 dy3
      have hfz := HZ5.out.free
      go_wp2_with fail
      clear dt0 dt1 dt2 dt3 dz0 dz1 dz2 dz3 dx0 dx1 dx2 dx3 dy0 dy1 dy2 dy3 hfz
      refine bodyPost_ret (v := .tuple #[.agg #[.int .i64 2, .int .i64 0, .string t2, .slice sN 2 cN], .bool true]) ?_ rfl ?_
      · exact results_cell_tmp Tryd.results119 _ _ (w.heap.size + 1) _ _ rfl (four_row HZ5.out (.int .i64 2) (.int .i64 0) (.string t2) (.slice sN 2 cN)) Tryd.underlying28 size_term
      have hz0 := HZ4.out.lt
      have hbs := HB4.out.size
      have hbf := four_bel HB5.out (show w.heap.size ≤ w.heap.size + 1 by omega) (.int .i64 2) (.int .i64 0) (.string t2) (.slice sN 2 cN)
      have hrw := own_four HRowN.out hz0 (.int .i64 2) (.int .i64 0) (.string t2) (.slice sN 2 cN)
      rw [HO.out]
      refine foldr_end (t := binT b t2 a) (a := sN) (c := cN) rfl (fun r hr => ?_) hbf rfl
      obtain rfl : binT b t2 a = r := Option.some.inj hr
      exact ⟨rfl, kp_bin hrw (fun b hb => .inr (by omega)) (HB.out.old hbf) (HA.out.old hbf)⟩
  by_cases hy0 : y0 = 0
  · have HO := hid (show onceT t = rightT a t2 y1 by rw [HOn.out, if_neg (fun h => hx0 h.1), if_neg (fun h => hx0 h.1), if_pos hy0])
    have hyn : 0 ≤ y1 ∧ y1 ≤ 65535 := by have := num_of HSh.out.2 (by rw [HQ.out.k]; exact hy0); rwa [HQ.out.n] at this
    have HRi := hid (fun (wx : World) (h1 : KP (fun b => P b ∧ b < w.heap.size) wx m (.slice sa la ca) a.kids) => (show Calls Tryd.prog 145 #[.string t2, .agg #[.int .i64 x0, .int .i64 x1, .string x2, .slice sa la ca], .int .i64 y1] wx (FoldR (m + 1) (fun b => P b ∧ b < w.heap.size) (rightT a t2 y1) wx) from HP.out.val (.slice sa la ca) ▸ foldRight_c m h _ a (.slice sa la ca) t2 y1 wx HSh.out.1 HOp.out hyn h1))
    have hb0 : (x0 == 0) = false := by simpa using hx0
    clear hyn hx0
    subst hy0
    go_enter Tryd.func119, Tryd.ntmps119
    go_wp2_with fail
    clear q0 q1 q2 q3 q4 q5 q6 q7
    have HOz := hid HZ3.out.lt
    refine (HRi.out _ (HA.out.arg HB3.out)).mono ?_
    rintro e w4 ⟨tR, sA, cA, rfl, hown, hbx⟩
    have HB4 := hid (HB3.out.trans (hbx.mono HB3.out.size))
    have HZ4 := hid (HZ3.out.on hbx)
    have HOw := hid hown
    clear hown hbx
    obtain ⟨z0, z1, z2, lz, hr⟩ := Pt.of tR
    rw [hr.val]
    rw [hr.l] at HOw ⊢
    have HR := hid hr
    clear hr
    obtain ⟨bo, hbo⟩ : ∃ q, (rightT a t2 y1).isSome = q := ⟨_, rfl⟩
    have HBo := hid hbo
    rw [hbo]
    clear hbo
    have dz0 := HZ4.out.cell 0
    have dz1 := HZ4.out.cell 1
    have dz2 := HZ4.out.cell 2
    have dz3 := HZ4.out.cell 3
    simp at dz0 dz1 dz2 dz3
    have hfz := HZ4.out.free
    go_wp2_with fail
    clear dz0 dz1 dz2 dz3 hfz
    refine bodyPost_ret (v := .tuple #[.agg #[.int .i64 z0, .int .i64 z1, .string z2, .slice sA lz cA], .bool bo]) ?_ rfl ?_
    · exact results_cell_tmp Tryd.results119 _ _ (w.heap.size + 1) _ _ rfl (four_row HZ4.out (.int .i64 z0) (.int .i64 z1) (.string z2) (.slice sA lz cA)) Tryd.underlying28 size_term
    · rw [HO.out]
      refine foldr_end (t := tR) (a := sA) (c := cA) HBo.out ?_ (four_bel HB4.out (show w.heap.size ≤ w.heap.size + 1 by omega) _ _ _ _) (by rw [HR.out.val, HR.out.l])
      rw [HR.out.l]
      exact foldr_pass (HOw.out) (Nat.le_succ _) HOz.out _ _ _ _
  · have HO := hid (show onceT t = (if a.plain = true ∧ sameT 14 a b = true then twiceT a t2 else none) by rw [HOn.out, if_neg (fun h => hx0 h.1), if_neg (fun h => hx0 h.1), if_neg hy0])
    have hb0 : (x0 == 0) = false := by simpa using hx0
    have hb1 : (y0 == 0) = false := by simpa using hy0
    clear hx0 hy0
    go_enter Tryd.func119, Tryd.ntmps119
    go_wp2_with fail
    clear q0 q1 q2 q3 q4 q5 q6 q7
    obtain ⟨bp, hbp⟩ : ∃ q, a.plain = q := ⟨_, rfl⟩
    have HBp := hid hbp
    have HPl := hid (fun (wx : World) (hr : KRd wx m (.slice sa la ca) a.kids) => (show Calls Tryd.prog 146 #[.agg #[.int .i64 x0, .int .i64 x1, .string x2, .slice sa la ca]] wx (fun e w' => e = .returned (.bool bp) ∧ Below wx.heap.size wx w') from hbp ▸ HP.out.val (.slice sa la ca) ▸ plain_c h m a (.slice sa la ca) wx hr HSh.out.1))
    clear hbp
    refine (HPl.out _ (HA.out.rd.on HB3.out)).mono ?_
    rintro e w4 ⟨rfl, hbx⟩
    have HB4 := hid (HB3.out.trans (hbx.mono HB3.out.size))
    have HT4 := hid (HT3.out.on hbx)
    have HZ4 := hid (HZ3.out.on hbx)
    have HX4 := hid (HX3.out.on hbx)
    have HY4 := hid (HY3.out.on hbx)
    clear hbx
    have dt0 := HT4.out.cell 0
    have dt1 := HT4.out.cell 1
    have dt2 := HT4.out.cell 2
    have dt3 := HT4.out.cell 3
    simp at dt0 dt1 dt2 dt3
    have dz0 := HZ4.out.cell 0
    have dz1 := HZ4.out.cell 1
    have dz2 := HZ4.out.cell 2
    have dz3 := HZ4.out.cell 3
    simp at dz0 dz1 dz2 dz3
    have dx0 := HX4.out.cell 0
    have dx1 := HX4.out.cell 1
    have dx2 := HX4.out.cell 2
    have dx3 := HX4.out.cell 3
    simp at dx0 dx1 dx2 dx3
    have dy0 := HY4.out.cell 0
    have dy1 := HY4.out.cell 1
    have dy2 := HY4.out.cell 2
    have dy3 := HY4.out.cell 3
    simp at dy0 dy1 dy2 dy3
    have hfz := HZ4.out.free
    cases bp
    · have HN := hid (show onceT t = none by rw [HO.out, HBp.out]; simp)
      go_wp2_with fail
      clear dt0 dt1 dt2 dt3 dz0 dz1 dz2 dz3 dx0 dx1 dx2 dx3 dy0 dy1 dy2 dy3 hfz
      refine bodyPost_ret (v := .tuple #[.agg #[.int .i64 0, .int .i64 0, .string ⟨#[]⟩, .slice none 0 0], .bool false]) ?_ rfl ?_
      · exact results_cell_tmp Tryd.results119 _ _ (w.heap.size + 1) _ _ rfl (four_row HZ4.out (.int .i64 0) (.int .i64 0) (.string ⟨#[]⟩) (.slice none 0 0)) Tryd.underlying28 size_term
      · rw [HN.out]
        exact foldr_end (t := tz) (a := none) (c := 0) rfl (fun r hr => by cases hr) (four_bel HB4.out (show w.heap.size ≤ w.heap.size + 1 by omega) _ _ _ _) rfl
    go_wp2_with fail
    obtain ⟨bs, hbs⟩ : ∃ q, sameT 14 a b = q := ⟨_, rfl⟩
    have HBs := hid hbs
    have HSm := hid (fun (wx : World) (h1 : KRd wx m (.slice sa la ca) a.kids) (h2 : KRd wx m (.slice sb lb cb) b.kids) => (show Calls Tryd.prog 57 #[.agg #[.int .i64 x0, .int .i64 x1, .string x2, .slice sa la ca], .agg #[.int .i64 y0, .int .i64 y1, .string y2, .slice sb lb cb]] wx (fun e w' => e = .returned (.bool bs) ∧ Below wx.heap.size wx w') from by
      have := sSameTerm_c 14 m m a b _ _ wx h1 h2 HWd.out.1 HWd.out.2 (shape_up HSh.out.1 h14)
      rw [hbs, HP.out.val, HQ.out.val] at this
      exact this))
    clear hbs
    refine (HSm.out _ (HA.out.rd.on HB4.out) (HB.out.rd.on HB4.out)).mono ?_
    rintro e w5 ⟨rfl, hbx⟩
    have HB5 := hid (HB4.out.trans (hbx.mono HB4.out.size))
    have HT5 := hid (HT4.out.on hbx)
    have HZ5 := hid (HZ4.out.on hbx)
    have HX5 := hid (HX4.out.on hbx)
    have HY5 := hid (HY4.out.on hbx)
    clear hbx
    clear dt0 dt1 dt2 dt3 dz0 dz1 dz2 dz3 dx0 dx1 dx2 dx3 dy0 dy1 dy2 dy3 hfz
    have dt0 := HT5.out.cell 0
    have dt1 := HT5.out.cell 1
    have dt2 := HT5.out.cell 2
    have dt3 := HT5.out.cell 3
    simp at dt0 dt1 dt2 dt3
    have dz0 := HZ5.out.cell 0
    have dz1 := HZ5.out.cell 1
    have dz2 := HZ5.out.cell 2
    have dz3 := HZ5.out.cell 3
    simp at dz0 dz1 dz2 dz3
    have dx0 := HX5.out.cell 0
    have dx1 := HX5.out.cell 1
    have dx2 := HX5.out.cell 2
    have dx3 := HX5.out.cell 3
    simp at dx0 dx1 dx2 dx3
    have dy0 := HY5.out.cell 0
    have dy1 := HY5.out.cell 1
    have dy2 := HY5.out.cell 2
    have dy3 := HY5.out.cell 3
    simp at dy0 dy1 dy2 dy3
    have hfz := HZ5.out.free
    cases bs
    · have HN := hid (show onceT t = none by rw [HO.out, HBs.out]; simp)
      go_wp2_with fail
      clear dt0 dt1 dt2 dt3 dz0 dz1 dz2 dz3 dx0 dx1 dx2 dx3 dy0 dy1 dy2 dy3 hfz
      refine bodyPost_ret (v := .tuple #[.agg #[.int .i64 0, .int .i64 0, .string ⟨#[]⟩, .slice none 0 0], .bool false]) ?_ rfl ?_
      · exact results_cell_tmp Tryd.results119 _ _ (w.heap.size + 1) _ _ rfl (four_row HZ5.out (.int .i64 0) (.int .i64 0) (.string ⟨#[]⟩) (.slice none 0 0)) Tryd.underlying28 size_term
      · rw [HN.out]
        exact foldr_end (t := tz) (a := none) (c := 0) rfl (fun r hr => by cases hr) (four_bel HB5.out (show w.heap.size ≤ w.heap.size + 1 by omega) _ _ _ _) rfl
    have HO := hid (show onceT t = twiceT a t2 by rw [HO.out, HBs.out, HBp.out]; simp)
    go_wp2_with fail
    have HTw := hid (fun (wx : World) (h1 : KP (fun b => P b ∧ b < w.heap.size) wx m (.slice sa la ca) a.kids) => (show Calls Tryd.prog 147 #[.string t2, .agg #[.int .i64 x0, .int .i64 x1, .string x2, .slice sa la ca]] wx (FoldR m (fun b => P b ∧ b < w.heap.size) (twiceT a t2) wx) from HP.out.val (.slice sa la ca) ▸ foldSame_c m _ a (.slice sa la ca) t2 wx HOp.out h1))
    have HOz := hid (show w.heap.size + 1 < w5.heap.size from HZ5.out.lt)
    refine (HTw.out _ (HA.out.arg HB5.out)).mono ?_
    rintro e w6 ⟨tR, sA, cA, rfl, hown, hbx⟩
    have HB6 := hid (HB5.out.trans (hbx.mono HB5.out.size))
    have HZ6 := hid (HZ5.out.on hbx)
    have HOw := hid hown
    clear hown hbx
    clear dt0 dt1 dt2 dt3 dz0 dz1 dz2 dz3 dx0 dx1 dx2 dx3 dy0 dy1 dy2 dy3 hfz
    obtain ⟨z0, z1, z2, lz, hr⟩ := Pt.of tR
    rw [hr.val]
    rw [hr.l] at HOw ⊢
    have HR := hid hr
    clear hr
    obtain ⟨bo, hbo⟩ : ∃ q, (twiceT a t2).isSome = q := ⟨_, rfl⟩
    have HBo := hid hbo
    rw [hbo]
    clear hbo
    have dz0 := HZ6.out.cell 0
    have dz1 := HZ6.out.cell 1
    have dz2 := HZ6.out.cell 2
    have dz3 := HZ6.out.cell 3
    simp at dz0 dz1 dz2 dz3
    have hfz := HZ6.out.free
    go_wp2_with fail
    clear dz0 dz1 dz2 dz3 hfz
    refine bodyPost_ret (v := .tuple #[.agg #[.int .i64 z0, .int .i64 z1, .string z2, .slice sA lz cA], .bool bo]) ?_ rfl ?_
    · exact results_cell_tmp Tryd.results119 _ _ (w.heap.size + 1) _ _ rfl (four_row HZ6.out (.int .i64 z0) (.int .i64 z1) (.string z2) (.slice sA lz cA)) Tryd.underlying28 size_term
    · rw [HO.out]
      refine foldr_end (t := tR) (a := sA) (c := cA) HBo.out ?_ (four_bel HB6.out (show w.heap.size ≤ w.heap.size + 1 by omega) _ _ _ _) (by rw [HR.out.val, HR.out.l])
      rw [HR.out.l]
      exact foldr_pass (foldr_lvl HOw.out) (Nat.le_succ _) HOz.out _ _ _ _
end Go.Proofs.YtffibmlgdacafaaDoor.Um
