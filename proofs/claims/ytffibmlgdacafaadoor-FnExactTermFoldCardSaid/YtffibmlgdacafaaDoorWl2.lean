/- Simpler terms: a term with an operator and a word behind it, by the model: numbers, truths. -/
import Derived.Test.YtffibmlgdacafaaDoorWl1
set_option linter.unusedSimpArgs false
set_option linter.unusedVariables false
namespace Go.Proofs.YtffibmlgdacafaaDoor.Um
open Go.RowKit Pl Ft Mm In C2 Im

set_option maxRecDepth 100000 in
set_option maxHeartbeats 10000000 in
theorem right_mul_0 (m h : Nat) (P : Nat → Prop) (a : Tm) (va : Value) (w : World) (hs : shape h a = true) (ha : KP P w m va a.kids) :
    Calls Tryd.prog 145 #[.string ⟨#[42]⟩, tmVal a va, .int .i64 0] w (FoldR (m + 1) P (rightT a ⟨#[42]⟩ 0) w) := by
  obtain ⟨sa, ca, rfl⟩ := ha.slice
  have HA := hid ha
  have HSh := hid hs
  clear ha hs
  obtain ⟨x0, x1, x2, la, hp⟩ := Pt.of a
  have HP := hid hp
  rw [hp.val]
  rw [hp.l] at HA ⊢
  clear hp
  have HB00 := hid ((Below.refl w.heap.size w).alloc (Nat.le_refl _) (.cells #[.int .i64 x0, .int .i64 x1, .string x2, .slice sa la ca] 28))
  have HB0 := hid (HB00.out.alloc HB00.out.size (.cells #[.int .i64 0, .int .i64 0, .string ⟨#[]⟩, .slice none 0 0] 28))
  have HZ0 := hid (Row.new (w.alloc (.cells #[.int .i64 x0, .int .i64 x1, .string x2, .slice sa la ca] 28)) 28 #[.int .i64 0, .int .i64 0, .string ⟨#[]⟩, .slice none 0 0])
  have HX0 := hid ((Row.new w 28 #[.int .i64 x0, .int .i64 x1, .string x2, .slice sa la ca]).alloc (.cells #[.int .i64 0, .int .i64 0, .string ⟨#[]⟩, .slice none 0 0] 28))
  have HBa := hid (HB00.out.alloc HB00.out.size (.cells #[.int .i64 x0, .int .i64 x1, .string x2, .slice sa la ca] 28))
  have HZa := hid (Row.new (w.alloc (.cells #[.int .i64 x0, .int .i64 x1, .string x2, .slice sa la ca] 28)) 28 #[.int .i64 x0, .int .i64 x1, .string x2, .slice sa la ca])
  simp only [World.size_alloc] at HZ0 HZa
  obtain ⟨b, hb⟩ : ∃ b, a.plain = b := ⟨_, rfl⟩
  have HRt := hid (show rightT a ⟨#[42]⟩ 0 = if b = true then some (nT 0) else none by rw [← hb]; simp [rightT, opIs])
  have HPl := hid (fun (wx : World) (hr : KRd wx m (.slice sa la ca) a.kids) => (show Calls Tryd.prog 146 #[.agg #[.int .i64 x0, .int .i64 x1, .string x2, .slice sa la ca]] wx (fun e w' => e = .returned (.bool b) ∧ Below wx.heap.size wx w') from hb ▸ HP.out.val (.slice sa la ca) ▸ plain_c h m a (.slice sa la ca) wx hr HSh.out))
  clear hb
  go_enter Tryd.func145, Tryd.ntmps145
  go_wp2_with fail
  refine (HPl.out _ (HA.out.rd.on HB0.out)).mono ?_
  rintro e w1 ⟨rfl, hbx⟩
  have HB1 := hid (HB0.out.trans (hbx.mono HB0.out.size))
  have HX1 := hid (HX0.out.on hbx)
  have HZ1 := hid (HZ0.out.on hbx)
  clear hbx
  have r0 := HZ1.out.cell 0
  have r1 := HZ1.out.cell 1
  have r2 := HZ1.out.cell 2
  have r3 := HZ1.out.cell 3
  simp at r0 r1 r2 r3
  have hfr := HZ1.out.free
  cases b
  · go_wp2_with fail
    clear r0 r1 r2 r3 hfr
    refine bodyPost_ret (v := .tuple #[.agg #[.int .i64 0, .int .i64 0, .string ⟨#[]⟩, .slice none 0 0], .bool false]) ?_ rfl ?_
    · exact results_cell_tmp Tryd.results145 _ _ (w.heap.size + 1) _ _ rfl (four_row HZ1.out (.int .i64 0) (.int .i64 0) (.string ⟨#[]⟩) (.slice none 0 0)) Tryd.underlying28 size_term
    · rw [HRt.out]
      exact foldr_end (t := tz) (a := none) (c := 0) rfl (fun r hr => by cases hr) (four_bel HB1.out (show w.heap.size ≤ w.heap.size + 1 by omega) _ _ _ _) rfl
  · go_wp2_with fail
    refine (num0_c 0 _).mono ?_
    rintro e w2 ⟨rfl, hbx⟩
    have HB2 := hid (HB1.out.trans (hbx.mono HB1.out.size))
    have HX2 := hid (HX1.out.on hbx)
    have HZ2 := hid (HZ1.out.on hbx)
    rw [nT_val]
    clear hbx
    clear r0 r1 r2 r3 hfr
    have r0 := HZ2.out.cell 0
    have r1 := HZ2.out.cell 1
    have r2 := HZ2.out.cell 2
    have r3 := HZ2.out.cell 3
    simp at r0 r1 r2 r3
    have hfr := HZ2.out.free
    go_wp2_with fail
    clear r0 r1 r2 r3 hfr
    refine bodyPost_ret (v := .tuple #[.agg #[.int .i64 0, .int .i64 0, .string ⟨#[]⟩, .slice none 0 0], .bool true]) ?_ rfl ?_
    · exact results_cell_tmp Tryd.results145 _ _ (w.heap.size + 1) _ _ rfl (four_row HZ2.out (.int .i64 0) (.int .i64 0) (.string ⟨#[]⟩) (.slice none 0 0)) Tryd.underlying28 size_term
    · rw [HRt.out]
      exact foldr_num rfl (four_bel HB2.out (show w.heap.size ≤ w.heap.size + 1 by omega) _ _ _ _)
set_option maxRecDepth 100000 in
set_option maxHeartbeats 10000000 in
theorem right_and_0 (m h : Nat) (P : Nat → Prop) (a : Tm) (va : Value) (w : World) (hs : shape h a = true) (ha : KP P w m va a.kids) :
    Calls Tryd.prog 145 #[.string ⟨#[38]⟩, tmVal a va, .int .i64 0] w (FoldR (m + 1) P (rightT a ⟨#[38]⟩ 0) w) := by
  obtain ⟨sa, ca, rfl⟩ := ha.slice
  have HA := hid ha
  have HSh := hid hs
  clear ha hs
  obtain ⟨x0, x1, x2, la, hp⟩ := Pt.of a
  have HP := hid hp
  rw [hp.val]
  rw [hp.l] at HA ⊢
  clear hp
  have HB00 := hid ((Below.refl w.heap.size w).alloc (Nat.le_refl _) (.cells #[.int .i64 x0, .int .i64 x1, .string x2, .slice sa la ca] 28))
  have HB0 := hid (HB00.out.alloc HB00.out.size (.cells #[.int .i64 0, .int .i64 0, .string ⟨#[]⟩, .slice none 0 0] 28))
  have HZ0 := hid (Row.new (w.alloc (.cells #[.int .i64 x0, .int .i64 x1, .string x2, .slice sa la ca] 28)) 28 #[.int .i64 0, .int .i64 0, .string ⟨#[]⟩, .slice none 0 0])
  have HX0 := hid ((Row.new w 28 #[.int .i64 x0, .int .i64 x1, .string x2, .slice sa la ca]).alloc (.cells #[.int .i64 0, .int .i64 0, .string ⟨#[]⟩, .slice none 0 0] 28))
  have HBa := hid (HB00.out.alloc HB00.out.size (.cells #[.int .i64 x0, .int .i64 x1, .string x2, .slice sa la ca] 28))
  have HZa := hid (Row.new (w.alloc (.cells #[.int .i64 x0, .int .i64 x1, .string x2, .slice sa la ca] 28)) 28 #[.int .i64 x0, .int .i64 x1, .string x2, .slice sa la ca])
  simp only [World.size_alloc] at HZ0 HZa
  obtain ⟨b, hb⟩ : ∃ b, a.plain = b := ⟨_, rfl⟩
  have HRt := hid (show rightT a ⟨#[38]⟩ 0 = if b = true then some (nT 0) else none by rw [← hb]; simp [rightT, opIs])
  have HPl := hid (fun (wx : World) (hr : KRd wx m (.slice sa la ca) a.kids) => (show Calls Tryd.prog 146 #[.agg #[.int .i64 x0, .int .i64 x1, .string x2, .slice sa la ca]] wx (fun e w' => e = .returned (.bool b) ∧ Below wx.heap.size wx w') from hb ▸ HP.out.val (.slice sa la ca) ▸ plain_c h m a (.slice sa la ca) wx hr HSh.out))
  clear hb
  go_enter Tryd.func145, Tryd.ntmps145
  go_wp2_with fail
  refine (HPl.out _ (HA.out.rd.on HB0.out)).mono ?_
  rintro e w1 ⟨rfl, hbx⟩
  have HB1 := hid (HB0.out.trans (hbx.mono HB0.out.size))
  have HX1 := hid (HX0.out.on hbx)
  have HZ1 := hid (HZ0.out.on hbx)
  clear hbx
  have r0 := HZ1.out.cell 0
  have r1 := HZ1.out.cell 1
  have r2 := HZ1.out.cell 2
  have r3 := HZ1.out.cell 3
  simp at r0 r1 r2 r3
  have hfr := HZ1.out.free
  cases b
  · go_wp2_with fail
    clear r0 r1 r2 r3 hfr
    refine bodyPost_ret (v := .tuple #[.agg #[.int .i64 0, .int .i64 0, .string ⟨#[]⟩, .slice none 0 0], .bool false]) ?_ rfl ?_
    · exact results_cell_tmp Tryd.results145 _ _ (w.heap.size + 1) _ _ rfl (four_row HZ1.out (.int .i64 0) (.int .i64 0) (.string ⟨#[]⟩) (.slice none 0 0)) Tryd.underlying28 size_term
    · rw [HRt.out]
      exact foldr_end (t := tz) (a := none) (c := 0) rfl (fun r hr => by cases hr) (four_bel HB1.out (show w.heap.size ≤ w.heap.size + 1 by omega) _ _ _ _) rfl
  · go_wp2_with fail
    refine (num0_c 0 _).mono ?_
    rintro e w2 ⟨rfl, hbx⟩
    have HB2 := hid (HB1.out.trans (hbx.mono HB1.out.size))
    have HX2 := hid (HX1.out.on hbx)
    have HZ2 := hid (HZ1.out.on hbx)
    rw [nT_val]
    clear hbx
    clear r0 r1 r2 r3 hfr
    have r0 := HZ2.out.cell 0
    have r1 := HZ2.out.cell 1
    have r2 := HZ2.out.cell 2
    have r3 := HZ2.out.cell 3
    simp at r0 r1 r2 r3
    have hfr := HZ2.out.free
    go_wp2_with fail
    clear r0 r1 r2 r3 hfr
    refine bodyPost_ret (v := .tuple #[.agg #[.int .i64 0, .int .i64 0, .string ⟨#[]⟩, .slice none 0 0], .bool true]) ?_ rfl ?_
    · exact results_cell_tmp Tryd.results145 _ _ (w.heap.size + 1) _ _ rfl (four_row HZ2.out (.int .i64 0) (.int .i64 0) (.string ⟨#[]⟩) (.slice none 0 0)) Tryd.underlying28 size_term
    · rw [HRt.out]
      exact foldr_num rfl (four_bel HB2.out (show w.heap.size ≤ w.heap.size + 1 by omega) _ _ _ _)
set_option maxRecDepth 100000 in
set_option maxHeartbeats 10000000 in
theorem right_or_65535 (m h : Nat) (P : Nat → Prop) (a : Tm) (va : Value) (w : World) (hs : shape h a = true) (ha : KP P w m va a.kids) :
    Calls Tryd.prog 145 #[.string ⟨#[124]⟩, tmVal a va, .int .i64 65535] w (FoldR (m + 1) P (rightT a ⟨#[124]⟩ 65535) w) := by
  obtain ⟨sa, ca, rfl⟩ := ha.slice
  have HA := hid ha
  have HSh := hid hs
  clear ha hs
  obtain ⟨x0, x1, x2, la, hp⟩ := Pt.of a
  have HP := hid hp
  rw [hp.val]
  rw [hp.l] at HA ⊢
  clear hp
  have HB00 := hid ((Below.refl w.heap.size w).alloc (Nat.le_refl _) (.cells #[.int .i64 x0, .int .i64 x1, .string x2, .slice sa la ca] 28))
  have HB0 := hid (HB00.out.alloc HB00.out.size (.cells #[.int .i64 0, .int .i64 0, .string ⟨#[]⟩, .slice none 0 0] 28))
  have HZ0 := hid (Row.new (w.alloc (.cells #[.int .i64 x0, .int .i64 x1, .string x2, .slice sa la ca] 28)) 28 #[.int .i64 0, .int .i64 0, .string ⟨#[]⟩, .slice none 0 0])
  have HX0 := hid ((Row.new w 28 #[.int .i64 x0, .int .i64 x1, .string x2, .slice sa la ca]).alloc (.cells #[.int .i64 0, .int .i64 0, .string ⟨#[]⟩, .slice none 0 0] 28))
  have HBa := hid (HB00.out.alloc HB00.out.size (.cells #[.int .i64 x0, .int .i64 x1, .string x2, .slice sa la ca] 28))
  have HZa := hid (Row.new (w.alloc (.cells #[.int .i64 x0, .int .i64 x1, .string x2, .slice sa la ca] 28)) 28 #[.int .i64 x0, .int .i64 x1, .string x2, .slice sa la ca])
  simp only [World.size_alloc] at HZ0 HZa
  obtain ⟨b, hb⟩ : ∃ b, a.plain = b := ⟨_, rfl⟩
  have HRt := hid (show rightT a ⟨#[124]⟩ 65535 = if b = true then some (nT 65535) else none by rw [← hb]; simp [rightT, opIs])
  have HPl := hid (fun (wx : World) (hr : KRd wx m (.slice sa la ca) a.kids) => (show Calls Tryd.prog 146 #[.agg #[.int .i64 x0, .int .i64 x1, .string x2, .slice sa la ca]] wx (fun e w' => e = .returned (.bool b) ∧ Below wx.heap.size wx w') from hb ▸ HP.out.val (.slice sa la ca) ▸ plain_c h m a (.slice sa la ca) wx hr HSh.out))
  clear hb
  go_enter Tryd.func145, Tryd.ntmps145
  go_wp2_with fail
  refine (HPl.out _ (HA.out.rd.on HB0.out)).mono ?_
  rintro e w1 ⟨rfl, hbx⟩
  have HB1 := hid (HB0.out.trans (hbx.mono HB0.out.size))
  have HX1 := hid (HX0.out.on hbx)
  have HZ1 := hid (HZ0.out.on hbx)
  clear hbx
  have r0 := HZ1.out.cell 0
  have r1 := HZ1.out.cell 1
  have r2 := HZ1.out.cell 2
  have r3 := HZ1.out.cell 3
  simp at r0 r1 r2 r3
  have hfr := HZ1.out.free
  cases b
  · go_wp2_with fail
    clear r0 r1 r2 r3 hfr
    refine bodyPost_ret (v := .tuple #[.agg #[.int .i64 0, .int .i64 0, .string ⟨#[]⟩, .slice none 0 0], .bool false]) ?_ rfl ?_
    · exact results_cell_tmp Tryd.results145 _ _ (w.heap.size + 1) _ _ rfl (four_row HZ1.out (.int .i64 0) (.int .i64 0) (.string ⟨#[]⟩) (.slice none 0 0)) Tryd.underlying28 size_term
    · rw [HRt.out]
      exact foldr_end (t := tz) (a := none) (c := 0) rfl (fun r hr => by cases hr) (four_bel HB1.out (show w.heap.size ≤ w.heap.size + 1 by omega) _ _ _ _) rfl
  · go_wp2_with fail
    refine (num0_c 65535 _).mono ?_
    rintro e w2 ⟨rfl, hbx⟩
    have HB2 := hid (HB1.out.trans (hbx.mono HB1.out.size))
    have HX2 := hid (HX1.out.on hbx)
    have HZ2 := hid (HZ1.out.on hbx)
    rw [nT_val]
    clear hbx
    clear r0 r1 r2 r3 hfr
    have r0 := HZ2.out.cell 0
    have r1 := HZ2.out.cell 1
    have r2 := HZ2.out.cell 2
    have r3 := HZ2.out.cell 3
    simp at r0 r1 r2 r3
    have hfr := HZ2.out.free
    go_wp2_with fail
    clear r0 r1 r2 r3 hfr
    refine bodyPost_ret (v := .tuple #[.agg #[.int .i64 0, .int .i64 65535, .string ⟨#[]⟩, .slice none 0 0], .bool true]) ?_ rfl ?_
    · exact results_cell_tmp Tryd.results145 _ _ (w.heap.size + 1) _ _ rfl (four_row HZ2.out (.int .i64 0) (.int .i64 65535) (.string ⟨#[]⟩) (.slice none 0 0)) Tryd.underlying28 size_term
    · rw [HRt.out]
      exact foldr_num rfl (four_bel HB2.out (show w.heap.size ≤ w.heap.size + 1 by omega) _ _ _ _)
set_option maxRecDepth 100000 in
set_option maxHeartbeats 10000000 in
theorem right_eq_0 (m h : Nat) (P : Nat → Prop) (a : Tm) (va : Value) (w : World) (hs : shape h a = true) (ha : KP P w m va a.kids) :
    Calls Tryd.prog 145 #[.string ⟨#[61, 61]⟩, tmVal a va, .int .i64 0] w (FoldR (m + 1) P (rightT a ⟨#[61, 61]⟩ 0) w) := by
  obtain ⟨sa, ca, rfl⟩ := ha.slice
  have HA := hid ha
  have HSh := hid hs
  clear ha hs
  obtain ⟨x0, x1, x2, la, hp⟩ := Pt.of a
  have HP := hid hp
  rw [hp.val]
  rw [hp.l] at HA ⊢
  clear hp
  have HB00 := hid ((Below.refl w.heap.size w).alloc (Nat.le_refl _) (.cells #[.int .i64 x0, .int .i64 x1, .string x2, .slice sa la ca] 28))
  have HB0 := hid (HB00.out.alloc HB00.out.size (.cells #[.int .i64 0, .int .i64 0, .string ⟨#[]⟩, .slice none 0 0] 28))
  have HZ0 := hid (Row.new (w.alloc (.cells #[.int .i64 x0, .int .i64 x1, .string x2, .slice sa la ca] 28)) 28 #[.int .i64 0, .int .i64 0, .string ⟨#[]⟩, .slice none 0 0])
  have HX0 := hid ((Row.new w 28 #[.int .i64 x0, .int .i64 x1, .string x2, .slice sa la ca]).alloc (.cells #[.int .i64 0, .int .i64 0, .string ⟨#[]⟩, .slice none 0 0] 28))
  have HBa := hid (HB00.out.alloc HB00.out.size (.cells #[.int .i64 x0, .int .i64 x1, .string x2, .slice sa la ca] 28))
  have HZa := hid (Row.new (w.alloc (.cells #[.int .i64 x0, .int .i64 x1, .string x2, .slice sa la ca] 28)) 28 #[.int .i64 x0, .int .i64 x1, .string x2, .slice sa la ca])
  simp only [World.size_alloc] at HZ0 HZa
  obtain ⟨b, hb⟩ : ∃ b, truthT a = b := ⟨_, rfl⟩
  have HRt := hid (show rightT a ⟨#[61, 61]⟩ 0 = if b = true then some (notT a) else none by rw [← hb]; simp [rightT, opIs])
  have HTr := hid (fun (wx : World) (u : Value) => (show Calls Tryd.prog 121 #[.agg #[.int .i64 x0, .int .i64 x1, .string x2, u]] wx (fun e w' => e = .returned (.bool b) ∧ Below wx.heap.size wx w') from hb ▸ HP.out.val u ▸ sIsTruth_c a u wx (shape_form_of HSh.out)))
  clear hb
  have HNt := hid (fun (wx : World) => (show Calls Tryd.prog 56 #[.agg #[.int .i64 x0, .int .i64 x1, .string x2, .slice sa la ca]] wx (MadePost (notT a) [.slice sa la ca] wx) from HP.out.val (.slice sa la ca) ▸ not_c a (.slice sa la ca) wx))
  go_enter Tryd.func145, Tryd.ntmps145
  go_wp2_with fail
  refine (HTr.out _ _).mono ?_
  rintro e w1 ⟨rfl, hbx⟩
  have HB1 := hid (HB0.out.trans (hbx.mono HB0.out.size))
  have HX1 := hid (HX0.out.on hbx)
  have HZ1 := hid (HZ0.out.on hbx)
  clear hbx
  have r0 := HZ1.out.cell 0
  have r1 := HZ1.out.cell 1
  have r2 := HZ1.out.cell 2
  have r3 := HZ1.out.cell 3
  simp at r0 r1 r2 r3
  have hfr := HZ1.out.free
  have d0 := HX1.out.cell 0
  have d1 := HX1.out.cell 1
  have d2 := HX1.out.cell 2
  have d3 := HX1.out.cell 3
  simp at d0 d1 d2 d3
  cases b
  · go_wp2_with fail
    clear r0 r1 r2 r3 hfr
    clear d0 d1 d2 d3
    refine bodyPost_ret (v := .tuple #[.agg #[.int .i64 0, .int .i64 0, .string ⟨#[]⟩, .slice none 0 0], .bool false]) ?_ rfl ?_
    · exact results_cell_tmp Tryd.results145 _ _ (w.heap.size + 1) _ _ rfl (four_row HZ1.out (.int .i64 0) (.int .i64 0) (.string ⟨#[]⟩) (.slice none 0 0)) Tryd.underlying28 size_term
    · rw [HRt.out]
      exact foldr_end (t := tz) (a := none) (c := 0) rfl (fun r hr => by cases hr) (four_bel HB1.out (show w.heap.size ≤ w.heap.size + 1 by omega) _ _ _ _) rfl
  · go_wp2_with fail
    refine (HNt.out _).mono ?_
    rintro e w2 ⟨sN, cN, rfl, hrowN, hbx⟩
    have HB2 := hid (HB1.out.trans (hbx.mono HB1.out.size))
    have HX2 := hid (HX1.out.on hbx)
    have HZ2 := hid (HZ1.out.on hbx)
    rw [show tmVal (notT a) (.slice sN (notT a).kids.length cN) = .agg #[.int .i64 3, .int .i64 0, .string ⟨#[]⟩, .slice sN 1 cN] from rfl]
    have HRowN := hid (show w2.ownsRow w1.heap.size 28 4 (.slice sN 1 cN) 1 (tCells [a] [.slice sa la ca]) from hrowN)
    clear hrowN
    clear hbx
    clear r0 r1 r2 r3 hfr
    clear d0 d1 d2 d3
    have r0 := HZ2.out.cell 0
    have r1 := HZ2.out.cell 1
    have r2 := HZ2.out.cell 2
    have r3 := HZ2.out.cell 3
    simp at r0 r1 r2 r3
    have hfr := HZ2.out.free
    go_wp2_with fail
    clear r0 r1 r2 r3 hfr
    refine bodyPost_ret (v := .tuple #[.agg #[.int .i64 3, .int .i64 0, .string ⟨#[]⟩, .slice sN 1 cN], .bool true]) ?_ rfl ?_
    · exact results_cell_tmp Tryd.results145 _ _ (w.heap.size + 1) _ _ rfl (four_row HZ2.out (.int .i64 3) (.int .i64 0) (.string ⟨#[]⟩) (.slice sN 1 cN)) Tryd.underlying28 size_term
    have hbf := four_bel HB2.out (show w.heap.size ≤ w.heap.size + 1 by omega) (.int .i64 3) (.int .i64 0) (.string ⟨#[]⟩) (.slice sN 1 cN)
    rw [HRt.out]
    have hz0 := HZ1.out.lt
    have hrw := own_four HRowN.out hz0 (.int .i64 3) (.int .i64 0) (.string ⟨#[]⟩) (.slice sN 1 cN)
    refine foldr_end (t := notT a) (a := sN) (c := cN) rfl (fun r hr => ?_) hbf rfl
    obtain rfl : notT a = r := Option.some.inj hr
    exact ⟨rfl, kp_not hrw (fun b hb => .inr (by omega)) (HA.out.old hbf)⟩
set_option maxRecDepth 100000 in
set_option maxHeartbeats 10000000 in
theorem right_eq_1 (m h : Nat) (P : Nat → Prop) (a : Tm) (va : Value) (w : World) (hs : shape h a = true) (ha : KP P w m va a.kids) :
    Calls Tryd.prog 145 #[.string ⟨#[61, 61]⟩, tmVal a va, .int .i64 1] w (FoldR (m + 1) P (rightT a ⟨#[61, 61]⟩ 1) w) := by
  obtain ⟨sa, ca, rfl⟩ := ha.slice
  have HA := hid ha
  have HSh := hid hs
  clear ha hs
  obtain ⟨x0, x1, x2, la, hp⟩ := Pt.of a
  have HP := hid hp
  rw [hp.val]
  rw [hp.l] at HA ⊢
  clear hp
  have HB00 := hid ((Below.refl w.heap.size w).alloc (Nat.le_refl _) (.cells #[.int .i64 x0, .int .i64 x1, .string x2, .slice sa la ca] 28))
  have HB0 := hid (HB00.out.alloc HB00.out.size (.cells #[.int .i64 0, .int .i64 0, .string ⟨#[]⟩, .slice none 0 0] 28))
  have HZ0 := hid (Row.new (w.alloc (.cells #[.int .i64 x0, .int .i64 x1, .string x2, .slice sa la ca] 28)) 28 #[.int .i64 0, .int .i64 0, .string ⟨#[]⟩, .slice none 0 0])
  have HX0 := hid ((Row.new w 28 #[.int .i64 x0, .int .i64 x1, .string x2, .slice sa la ca]).alloc (.cells #[.int .i64 0, .int .i64 0, .string ⟨#[]⟩, .slice none 0 0] 28))
  have HBa := hid (HB00.out.alloc HB00.out.size (.cells #[.int .i64 x0, .int .i64 x1, .string x2, .slice sa la ca] 28))
  have HZa := hid (Row.new (w.alloc (.cells #[.int .i64 x0, .int .i64 x1, .string x2, .slice sa la ca] 28)) 28 #[.int .i64 x0, .int .i64 x1, .string x2, .slice sa la ca])
  simp only [World.size_alloc] at HZ0 HZa
  obtain ⟨b, hb⟩ : ∃ b, truthT a = b := ⟨_, rfl⟩
  have HRt := hid (show rightT a ⟨#[61, 61]⟩ 1 = if b = true then some a else none by rw [← hb]; simp [rightT, opIs])
  have HTr := hid (fun (wx : World) (u : Value) => (show Calls Tryd.prog 121 #[.agg #[.int .i64 x0, .int .i64 x1, .string x2, u]] wx (fun e w' => e = .returned (.bool b) ∧ Below wx.heap.size wx w') from hb ▸ HP.out.val u ▸ sIsTruth_c a u wx (shape_form_of HSh.out)))
  clear hb
  go_enter Tryd.func145, Tryd.ntmps145
  go_wp2_with fail
  refine (HTr.out _ _).mono ?_
  rintro e w1 ⟨rfl, hbx⟩
  have HB1 := hid (HB0.out.trans (hbx.mono HB0.out.size))
  have HX1 := hid (HX0.out.on hbx)
  have HZ1 := hid (HZ0.out.on hbx)
  clear hbx
  have r0 := HZ1.out.cell 0
  have r1 := HZ1.out.cell 1
  have r2 := HZ1.out.cell 2
  have r3 := HZ1.out.cell 3
  simp at r0 r1 r2 r3
  have hfr := HZ1.out.free
  have d0 := HX1.out.cell 0
  have d1 := HX1.out.cell 1
  have d2 := HX1.out.cell 2
  have d3 := HX1.out.cell 3
  simp at d0 d1 d2 d3
  cases b
  · go_wp2_with fail
    clear r0 r1 r2 r3 hfr
    clear d0 d1 d2 d3
    refine bodyPost_ret (v := .tuple #[.agg #[.int .i64 0, .int .i64 0, .string ⟨#[]⟩, .slice none 0 0], .bool false]) ?_ rfl ?_
    · exact results_cell_tmp Tryd.results145 _ _ (w.heap.size + 1) _ _ rfl (four_row HZ1.out (.int .i64 0) (.int .i64 0) (.string ⟨#[]⟩) (.slice none 0 0)) Tryd.underlying28 size_term
    · rw [HRt.out]
      exact foldr_end (t := tz) (a := none) (c := 0) rfl (fun r hr => by cases hr) (four_bel HB1.out (show w.heap.size ≤ w.heap.size + 1 by omega) _ _ _ _) rfl
  · go_wp2_with fail
    clear r0 r1 r2 r3 hfr
    clear d0 d1 d2 d3
    refine bodyPost_ret (v := .tuple #[.agg #[.int .i64 x0, .int .i64 x1, .string x2, .slice sa la ca], .bool true]) ?_ rfl ?_
    · exact results_cell_tmp Tryd.results145 _ _ (w.heap.size + 1) _ _ rfl (four_row HZ1.out (.int .i64 x0) (.int .i64 x1) (.string x2) (.slice sa la ca)) Tryd.underlying28 size_term
    have hbf := four_bel HB1.out (show w.heap.size ≤ w.heap.size + 1 by omega) (.int .i64 x0) (.int .i64 x1) (.string x2) (.slice sa la ca)
    rw [HRt.out]
    exact foldr_end (t := a) (a := sa) (c := ca) rfl (fun r hr => by obtain rfl : a = r := Option.some.inj hr; exact ⟨rfl, by rw [HP.out.l]; exact (HA.out.old hbf).mono (Nat.le_succ _)⟩) hbf (by rw [HP.out.l, HP.out.val])
set_option maxRecDepth 100000 in
set_option maxHeartbeats 10000000 in
theorem right_lo_0 (m h : Nat) (P : Nat → Prop) (a : Tm) (va : Value) (w : World) (hs : shape h a = true) (ha : KP P w m va a.kids) :
    Calls Tryd.prog 145 #[.string ⟨#[60, 60]⟩, tmVal a va, .int .i64 0] w (FoldR (m + 1) P (rightT a ⟨#[60, 60]⟩ 0) w) := by
  obtain ⟨sa, ca, rfl⟩ := ha.slice
  have HA := hid ha
  have HSh := hid hs
  clear ha hs
  obtain ⟨x0, x1, x2, la, hp⟩ := Pt.of a
  have HP := hid hp
  rw [hp.val]
  rw [hp.l] at HA ⊢
  clear hp
  have HB00 := hid ((Below.refl w.heap.size w).alloc (Nat.le_refl _) (.cells #[.int .i64 x0, .int .i64 x1, .string x2, .slice sa la ca] 28))
  have HB0 := hid (HB00.out.alloc HB00.out.size (.cells #[.int .i64 0, .int .i64 0, .string ⟨#[]⟩, .slice none 0 0] 28))
  have HZ0 := hid (Row.new (w.alloc (.cells #[.int .i64 x0, .int .i64 x1, .string x2, .slice sa la ca] 28)) 28 #[.int .i64 0, .int .i64 0, .string ⟨#[]⟩, .slice none 0 0])
  have HX0 := hid ((Row.new w 28 #[.int .i64 x0, .int .i64 x1, .string x2, .slice sa la ca]).alloc (.cells #[.int .i64 0, .int .i64 0, .string ⟨#[]⟩, .slice none 0 0] 28))
  have HBa := hid (HB00.out.alloc HB00.out.size (.cells #[.int .i64 x0, .int .i64 x1, .string x2, .slice sa la ca] 28))
  have HZa := hid (Row.new (w.alloc (.cells #[.int .i64 x0, .int .i64 x1, .string x2, .slice sa la ca] 28)) 28 #[.int .i64 x0, .int .i64 x1, .string x2, .slice sa la ca])
  simp only [World.size_alloc] at HZ0 HZa
  obtain ⟨b, hb⟩ : ∃ b, a.plain = b := ⟨_, rfl⟩
  have HRt := hid (show rightT a ⟨#[60, 60]⟩ 0 = if b = true then some (nT 0) else none by rw [← hb]; simp [rightT, opIs])
  have HPl := hid (fun (wx : World) (hr : KRd wx m (.slice sa la ca) a.kids) => (show Calls Tryd.prog 146 #[.agg #[.int .i64 x0, .int .i64 x1, .string x2, .slice sa la ca]] wx (fun e w' => e = .returned (.bool b) ∧ Below wx.heap.size wx w') from hb ▸ HP.out.val (.slice sa la ca) ▸ plain_c h m a (.slice sa la ca) wx hr HSh.out))
  clear hb
  go_enter Tryd.func145, Tryd.ntmps145
  go_wp2_with fail
  refine (HPl.out _ (HA.out.rd.on HB0.out)).mono ?_
  rintro e w1 ⟨rfl, hbx⟩
  have HB1 := hid (HB0.out.trans (hbx.mono HB0.out.size))
  have HX1 := hid (HX0.out.on hbx)
  have HZ1 := hid (HZ0.out.on hbx)
  clear hbx
  have r0 := HZ1.out.cell 0
  have r1 := HZ1.out.cell 1
  have r2 := HZ1.out.cell 2
  have r3 := HZ1.out.cell 3
  simp at r0 r1 r2 r3
  have hfr := HZ1.out.free
  cases b
  · go_wp2_with fail
    clear r0 r1 r2 r3 hfr
    refine bodyPost_ret (v := .tuple #[.agg #[.int .i64 0, .int .i64 0, .string ⟨#[]⟩, .slice none 0 0], .bool false]) ?_ rfl ?_
    · exact results_cell_tmp Tryd.results145 _ _ (w.heap.size + 1) _ _ rfl (four_row HZ1.out (.int .i64 0) (.int .i64 0) (.string ⟨#[]⟩) (.slice none 0 0)) Tryd.underlying28 size_term
    · rw [HRt.out]
      exact foldr_end (t := tz) (a := none) (c := 0) rfl (fun r hr => by cases hr) (four_bel HB1.out (show w.heap.size ≤ w.heap.size + 1 by omega) _ _ _ _) rfl
  · go_wp2_with fail
    refine (num0_c 0 _).mono ?_
    rintro e w2 ⟨rfl, hbx⟩
    have HB2 := hid (HB1.out.trans (hbx.mono HB1.out.size))
    have HX2 := hid (HX1.out.on hbx)
    have HZ2 := hid (HZ1.out.on hbx)
    rw [nT_val]
    clear hbx
    clear r0 r1 r2 r3 hfr
    have r0 := HZ2.out.cell 0
    have r1 := HZ2.out.cell 1
    have r2 := HZ2.out.cell 2
    have r3 := HZ2.out.cell 3
    simp at r0 r1 r2 r3
    have hfr := HZ2.out.free
    go_wp2_with fail
    clear r0 r1 r2 r3 hfr
    refine bodyPost_ret (v := .tuple #[.agg #[.int .i64 0, .int .i64 0, .string ⟨#[]⟩, .slice none 0 0], .bool true]) ?_ rfl ?_
    · exact results_cell_tmp Tryd.results145 _ _ (w.heap.size + 1) _ _ rfl (four_row HZ2.out (.int .i64 0) (.int .i64 0) (.string ⟨#[]⟩) (.slice none 0 0)) Tryd.underlying28 size_term
    · rw [HRt.out]
      exact foldr_num rfl (four_bel HB2.out (show w.heap.size ≤ w.heap.size + 1 by omega) _ _ _ _)
end Go.Proofs.YtffibmlgdacafaaDoor.Um
