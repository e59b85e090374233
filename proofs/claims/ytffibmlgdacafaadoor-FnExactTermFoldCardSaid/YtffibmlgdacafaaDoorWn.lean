/- Simpler terms: foldOnce of the model. -/
import Derived.Test.YtffibmlgdacafaaDoorWm
set_option linter.unusedSimpArgs false
set_option linter.unusedVariables false
namespace Go.Proofs.YtffibmlgdacafaaDoor.Um
open Go.RowKit Pl Ft Mm In C2 Im

set_option maxRecDepth 100000 in
set_option maxHeartbeats 8000000 in
theorem foldOnce_c (m h : Nat) (P : Nat → Prop) (t : Tm) (kv : Value) (w : World) (hs : shape (h + 1) t = true) (h14 : h ≤ 14) (hsz : t.size ≤ 20000) (hr : KP P w (m + 1) kv t.kids) :
    Calls Tryd.prog 76 #[tmVal t kv] w (FoldR (m + 1) P (onceT t) w) := by
  obtain ⟨hf, hks⟩ := shape_at hs
  have HF := hid hf
  have HBf := hid (fun hk => bin_form hf hk)
  have HNf := hid (fun hk => not_form hf hk)
  have HKs := hid hks
  have HSz := hid hsz
  obtain ⟨sa, ca, rfl⟩ := hr.slice
  have HR := hid hr
  clear hs hf hks hsz hr
  obtain ⟨x0, x1, x2, la, hp⟩ := Pt.of t
  have HP := hid hp
  rw [hp.val]
  rw [hp.l] at HR ⊢
  clear hp
  have HB00 := hid ((Below.refl w.heap.size w).alloc (Nat.le_refl _) (.cells #[.int .i64 x0, .int .i64 x1, .string x2, .slice sa la ca] 28))
  have HB0 := hid (HB00.out.alloc HB00.out.size (.cells #[.int .i64 0, .int .i64 0, .string ⟨#[]⟩, .slice none 0 0] 28))
  have HX0 := hid ((Row.new w 28 #[.int .i64 x0, .int .i64 x1, .string x2, .slice sa la ca]).alloc (.cells #[.int .i64 0, .int .i64 0, .string ⟨#[]⟩, .slice none 0 0] 28))
  have HZ0 := hid (Row.new (w.alloc (.cells #[.int .i64 x0, .int .i64 x1, .string x2, .slice sa la ca] 28)) 28 #[.int .i64 0, .int .i64 0, .string ⟨#[]⟩, .slice none 0 0])
  simp only [World.size_alloc] at HZ0
  by_cases hk2 : t.kind = 2
  · obtain ⟨hl2, _, hz⟩ := HBf.out hk2
    have hs0 := HKs.out 0 (by omega)
    have hs1 := HKs.out 1 (by omega)
    have hw0 := shape_wide _ _ hs0
    have hw1 := shape_wide _ _ hs1
    have hzz := HSz.out
    have HBi := hid (fun (wx : World) (hb : Below w.heap.size w wx) => (show Calls Tryd.prog 119 #[.agg #[.int .i64 x0, .int .i64 x1, .string x2, .slice sa la ca]] wx (FoldR (m + 1) (fun b => P b ∧ b < w.heap.size) (onceT t) wx) from by
      have := foldBin_c m h (fun b => P b ∧ b < w.heap.size) t (.slice sa la ca) wx HF.out hk2 (HR.out.arg hb) h14 ⟨hs0, hs1⟩ ⟨by omega, by omega⟩
      rw [HP.out.val] at this
      exact this))
    obtain ⟨ob, hob⟩ : ∃ q, onceT t = q := ⟨_, rfl⟩
    rw [hob] at HBi ⊢
    obtain rfl : x0 = 2 := HP.out.k.symm.trans hk2
    clear hl2 hz hs0 hs1 hw0 hw1 hzz hob hk2
    go_enter Tryd.func76, Tryd.ntmps76
    go_wp2_with fail
    refine (HBi.out _ HB0.out).mono ?_
    rintro e w1 ⟨tR, sR, cR, rfl, hown, hbx⟩
    have HB1 := hid (HB0.out.trans (hbx.mono HB0.out.size))
    have HZ1 := hid (HZ0.out.on hbx)
    clear hbx
    obtain ⟨q0, q1, q2, lR, hr⟩ := Pt.of tR
    rw [hr.val]
    rw [hr.l] at hown ⊢
    have HOw := hid hown
    have HRr := hid hr
    clear hown hr
    obtain ⟨bo, hbo⟩ : ∃ q, ob.isSome = q := ⟨_, rfl⟩
    have HBo := hid hbo
    rw [hbo]
    clear hbo
    have r0 := HZ1.out.cell 0
    have r1 := HZ1.out.cell 1
    have r2 := HZ1.out.cell 2
    have r3 := HZ1.out.cell 3
    simp at r0 r1 r2 r3
    have hfr := HZ1.out.free
    go_wp2_with fail
    clear r0 r1 r2 r3 hfr
    refine bodyPost_ret (v := .tuple #[.agg #[.int .i64 q0, .int .i64 q1, .string q2, .slice sR lR cR], .bool bo]) ?_ rfl ?_
    · exact results_cell_tmp Tryd.results76 _ _ (w.heap.size + 1) _ _ rfl (four_row HZ1.out (.int .i64 q0) (.int .i64 q1) (.string q2) (.slice sR lR cR)) Tryd.underlying28 size_term
    have hz0 := HZ0.out.lt
    refine foldr_end (t := tR) (a := sR) (c := cR) HBo.out ?_ (four_bel HB1.out (show w.heap.size ≤ w.heap.size + 1 by omega) _ _ _ _) (by rw [HRr.out.val, HRr.out.l])
    rw [HRr.out.l]
    exact foldr_pass HOw.out (Nat.le_succ _) hz0 _ _ _ _
  by_cases hk3 : t.kind = 3
  · obtain ⟨hl2, _⟩ := HNf.out hk3
    have hs0 := HKs.out 0 (by omega)
    obtain ⟨m', r, o, ct, hmm, hv, hrl, hc⟩ := HR.out.part (by omega)
    obtain rfl : m = m' := by omega
    rw [hl2] at hv
    simp only [Value.slice.injEq] at hv
    obtain ⟨rfl, rfl, rfl⟩ := hv
    obtain ⟨u0, c0, c1, c2, c3, k4⟩ := hc 0 (by omega)
    simp only [Nat.zero_mul, Nat.add_zero] at c0 c1 c2 c3
    have HOn := hid (show onceT t = onceNot (t.kids.getD 0 tz) by rw [onceT, if_neg (by omega), if_pos hk3])
    obtain ⟨a, ha⟩ : ∃ k, t.kids.getD 0 tz = k := ⟨_, rfl⟩
    rw [ha] at c0 c1 c2 k4 hs0 HOn
    have HNf2 := hid (fun hk => not_form (shape_form_of hs0) hk)
    have HKs2 := hid (fun j hj => shape_kids hs0 j hj)
    obtain ⟨su, cu, rfl⟩ := k4.slice
    obtain ⟨y0, y1, y2, ly, hq⟩ := Pt.of a
    have HQ := hid hq
    rw [hq.k] at c0
    rw [hq.n] at c1
    rw [hq.s] at c2
    rw [hq.l] at c3 k4
    have HOn2 := hid (show onceT t = (if y0 = 0 then some (nT (if y1 = 0 then 1 else 0)) else if y0 = 3 ∧ truthT (a.kids.getD 0 tz) = true then some (a.kids.getD 0 tz) else none) by rw [HOn.out, onceNot, hq.k, hq.n])
    have HK4 := hid k4
    have q0 := (HB0.out.cell (p := ⟨r, o, none⟩) hrl).trans c0
    have q1 := (HB0.out.cell (p := ⟨r, o + 1, none⟩) hrl).trans c1
    have q2 := (HB0.out.cell (p := ⟨r, o + 2, none⟩) hrl).trans c2
    have q3 := (HB0.out.cell (p := ⟨r, o + 3, none⟩) hrl).trans c3
    have HB3 := hid (HB0.out.alloc HB0.out.size (.cells #[.int .i64 y0, .int .i64 y1, .string y2, .slice su ly cu] 28))
    have HY3 := hid (Row.new ((w.alloc (.cells #[.int .i64 x0, .int .i64 x1, .string x2, .slice (some ⟨r, o, none⟩) 1 ca] 28)).alloc (.cells #[.int .i64 0, .int .i64 0, .string ⟨#[]⟩, .slice none 0 0] 28)) 28 #[.int .i64 y0, .int .i64 y1, .string y2, .slice su ly cu])
    have HZ3 := hid (HZ0.out.alloc (.cells #[.int .i64 y0, .int .i64 y1, .string y2, .slice su ly cu] 28))
    simp only [World.size_alloc] at HY3
    obtain rfl : x0 = 3 := HP.out.k.symm.trans hk3
    clear hl2 hc c0 c1 c2 c3 k4 ha hs0 hq hmm hk2 hk3 HX0
    by_cases hy0 : y0 = 0
    · subst hy0
      obtain ⟨bz, hbz⟩ : ∃ b, (y1 == 0) = b := ⟨_, rfl⟩
      have HO := hid (show onceT t = some (nT (if bz = true then 1 else 0)) by rw [HOn2.out, if_pos rfl, ← hbz]; simp)
      have HBz := hid hbz
      clear hbz
      go_enter Tryd.func76, Tryd.ntmps76
      go_wp2_with fail
      clear q0 q1 q2 q3
      rw [HBz.out]
      refine (bit_c bz _).mono ?_
      rintro e w4 ⟨rfl, rfl⟩
      obtain ⟨z, hz⟩ : ∃ z : Int, (if bz = true then (1 : Int) else 0) = z := ⟨_, rfl⟩
      have hvm : z % 65536 = z := by rw [← hz]; split <;> rfl
      have HNm := hid (fun (wx : World) => num_w z hvm wx)
      rw [hz] at HO ⊢
      clear hz hvm
      go_wp2_with fail
      refine (HNm.out _).mono ?_
      rintro e w5 ⟨rfl, hbx⟩
      rw [nT_val]
      have HB5 := hid (HB3.out.trans (hbx.mono HB3.out.size))
      have HZ5 := hid (HZ3.out.on hbx)
      clear hbx
      have r0 := HZ5.out.cell 0
      have r1 := HZ5.out.cell 1
      have r2 := HZ5.out.cell 2
      have r3 := HZ5.out.cell 3
      simp at r0 r1 r2 r3
      have hfr := HZ5.out.free
      go_wp2_with fail
      clear r0 r1 r2 r3 hfr
      refine bodyPost_ret (v := .tuple #[.agg #[.int .i64 0, .int .i64 z, .string ⟨#[]⟩, .slice none 0 0], .bool true]) ?_ rfl ?_
      · exact results_cell_tmp Tryd.results76 _ _ (w.heap.size + 1) _ _ rfl (four_row HZ5.out (.int .i64 0) (.int .i64 z) (.string ⟨#[]⟩) (.slice none 0 0)) Tryd.underlying28 size_term
      · exact foldr_num HO.out (four_bel HB5.out (show w.heap.size ≤ w.heap.size + 1 by omega) _ _ _ _)
    by_cases hy3 : y0 = 3
    case neg =>
      have hb0 : (y0 == 0) = false := by simpa using hy0
      have hb3 : (y0 == 3) = false := by simpa using hy3
      have HO := hid (show onceT t = none by rw [HOn2.out, if_neg hy0, if_neg (fun h => hy3 h.1)])
      clear hy0 hy3
      go_enter Tryd.func76, Tryd.ntmps76
      go_wp2_with fail
      clear q0 q1 q2 q3
      refine bodyPost_ret (v := .tuple #[.agg #[.int .i64 0, .int .i64 0, .string ⟨#[]⟩, .slice none 0 0], .bool false]) ?_ rfl ?_
      · exact results_cell_tmp Tryd.results76 _ _ (w.heap.size + 1) _ _ rfl HZ3.out Tryd.underlying28 size_term
      · rw [HO.out]
        exact foldr_end (t := tz) (a := none) (c := 0) rfl (fun r hr => by cases hr) HB3.out rfl
    subst hy3
    obtain ⟨hl3, _⟩ := HNf2.out HQ.out.k
    have hs0 := HKs2.out 0 (by omega)
    obtain ⟨m2, r2, o2, ct2, hm2, hv2, hrl2, hc2⟩ := HK4.out.part (by omega)
    rw [hl3] at hv2
    simp only [Value.slice.injEq] at hv2
    obtain ⟨rfl, rfl, rfl⟩ := hv2
    obtain ⟨u1, e0, e1, e2, e3, k5⟩ := hc2 0 (by omega)
    simp only [Nat.zero_mul, Nat.add_zero] at e0 e1 e2 e3
    obtain ⟨k0, hk0⟩ : ∃ k, a.kids.getD 0 tz = k := ⟨_, rfl⟩
    rw [hk0] at e0 e1 e2 k5 hs0 HOn2
    obtain ⟨sv, cv, rfl⟩ := k5.slice
    obtain ⟨z0, z1, z2, lz, hq0⟩ := Pt.of k0
    have HQ0 := hid hq0
    rw [hq0.k] at e0
    rw [hq0.n] at e1
    rw [hq0.s] at e2
    rw [hq0.l] at e3 k5
    have HK5 := hid k5
    have HCe := hid (fun (wx : World) (hb : Below w.heap.size w wx) => (show wx.cell? ⟨r2, o2, none⟩ = some (.int .i64 z0) ∧ wx.cell? ⟨r2, o2 + 1, none⟩ = some (.int .i64 z1) ∧ wx.cell? ⟨r2, o2 + 2, none⟩ = some (.string z2) ∧ wx.cell? ⟨r2, o2 + 3, none⟩ = some (.slice sv lz cv) from
      ⟨(hb.cell (p := ⟨r2, o2, none⟩) hrl2).trans e0, (hb.cell (p := ⟨r2, o2 + 1, none⟩) hrl2).trans e1, (hb.cell (p := ⟨r2, o2 + 2, none⟩) hrl2).trans e2, (hb.cell (p := ⟨r2, o2 + 3, none⟩) hrl2).trans e3⟩))
    obtain ⟨b, hb⟩ : ∃ b, truthT k0 = b := ⟨_, rfl⟩
    have HTr := hid (fun (wx : World) => (show Calls Tryd.prog 121 #[.agg #[.int .i64 z0, .int .i64 z1, .string z2, .slice sv lz cv]] wx (fun e w' => e = .returned (.bool b) ∧ Below wx.heap.size wx w') from hb ▸ HQ0.out.val (.slice sv lz cv) ▸ sIsTruth_c k0 (.slice sv lz cv) wx (shape_form_of hs0)))
    have HO := hid (show onceT t = if b = true then some k0 else none by rw [HOn2.out, if_neg (by decide), ← hb]; simp)
    have HM2 := hid hm2
    clear hy0 hl3 hs0 hc2 e0 e1 e2 e3 k5 hk0 hq0 hb hm2
    obtain ⟨d0, d1, d2, d3⟩ := HCe.out _ HB3.out
    go_enter Tryd.func76, Tryd.ntmps76
    go_wp2_with fail
    clear q0 q1 q2 q3 d0 d1 d2 d3
    refine (HTr.out _).mono ?_
    rintro e w5 ⟨rfl, hbx⟩
    have HB5 := hid (HB3.out.trans (hbx.mono HB3.out.size))
    have HZ5 := hid (HZ3.out.on hbx)
    have HY5 := hid (HY3.out.on hbx)
    clear hbx
    have r0 := HZ5.out.cell 0
    have r1 := HZ5.out.cell 1
    have r2 := HZ5.out.cell 2
    have r3 := HZ5.out.cell 3
    have y3 := HY5.out.cell 3
    simp at r0 r1 r2 r3 y3
    have hfr := HZ5.out.free
    obtain ⟨d0, d1, d2, d3⟩ := HCe.out _ HB5.out
    cases b
    · go_wp2_with fail
      clear r0 r1 r2 r3 hfr y3 d0 d1 d2 d3
      refine bodyPost_ret (v := .tuple #[.agg #[.int .i64 0, .int .i64 0, .string ⟨#[]⟩, .slice none 0 0], .bool false]) ?_ rfl ?_
      · exact results_cell_tmp Tryd.results76 _ _ (w.heap.size + 1) _ _ rfl (four_row HZ5.out (.int .i64 0) (.int .i64 0) (.string ⟨#[]⟩) (.slice none 0 0)) Tryd.underlying28 size_term
      · rw [HO.out]
        exact foldr_end (t := tz) (a := none) (c := 0) rfl (fun r hr => by cases hr) (four_bel HB5.out (show w.heap.size ≤ w.heap.size + 1 by omega) _ _ _ _) rfl
    · go_wp2_with fail
      clear r0 r1 r2 r3 hfr y3 d0 d1 d2 d3
      refine bodyPost_ret (v := .tuple #[.agg #[.int .i64 z0, .int .i64 z1, .string z2, .slice sv lz cv], .bool true]) ?_ rfl ?_
      · exact results_cell_tmp Tryd.results76 _ _ (w.heap.size + 1) _ _ rfl (four_row HZ5.out (.int .i64 z0) (.int .i64 z1) (.string z2) (.slice sv lz cv)) Tryd.underlying28 size_term
      · have hbf := four_bel HB5.out (show w.heap.size ≤ w.heap.size + 1 by omega) (.int .i64 z0) (.int .i64 z1) (.string z2) (.slice sv lz cv)
        rw [HO.out]
        refine foldr_end (t := k0) (a := sv) (c := cv) rfl (fun r hr => ?_) hbf (by rw [HQ0.out.l, HQ0.out.val])
        obtain rfl : k0 = r := Option.some.inj hr
        refine ⟨rfl, ?_⟩
        rw [HQ0.out.l]
        exact (HK5.out.old hbf).mono (by have := HM2.out; omega)
  · have HO := hid (show onceT t = none by rw [onceT, if_neg hk2, if_neg hk3])
    have hb2 : (x0 == 2) = false := by simpa using (fun e => hk2 (HP.out.k.trans e))
    have hb3 : (x0 == 3) = false := by simpa using (fun e => hk3 (HP.out.k.trans e))
    clear hk2 hk3
    go_enter Tryd.func76, Tryd.ntmps76
    go_wp2_with fail
    refine bodyPost_ret (v := .tuple #[.agg #[.int .i64 0, .int .i64 0, .string ⟨#[]⟩, .slice none 0 0], .bool false]) ?_ rfl ?_
    · exact results_cell_tmp Tryd.results76 _ _ (w.heap.size + 1) _ _ rfl HZ0.out Tryd.underlying28 size_term
    · rw [HO.out]
      exact foldr_end (t := tz) (a := none) (c := 0) rfl (fun r hr => by cases hr) HB0.out rfl
end Go.Proofs.YtffibmlgdacafaaDoor.Um
