/- The exact law of TermText: the walk. -/
import Derived.Test.YtgenojpdjplccaaDoorVd
import Derived.Test.YtgenojpdjplccaaDoorUf
set_option linter.unusedSimpArgs false
set_option linter.unusedVariables false
namespace Go.Proofs.YtgenojpdjplccaaDoor.Um
open Go.RowKit Pl Ft Mm In C2 Im Tx

set_option maxRecDepth 100000 in
set_option maxHeartbeats 4000000 in
theorem exactTermText_w (n : Nat) (t : Tm) (kv : Value) (w : World) (hr : KRd w n kv t.kids) (hl : Lim n t.kids) (ht : t.text.size ≤ 9223372036854775807) (hT : Tabs w) (hTb : Tab w) :
    Calls Tryd.prog 8 #[tmVal t kv] w fun e w' => e = .returned (.bool true) ∧ Below w.heap.size w w' := by
  have HR := hid hr
  have HL := hid hl
  have HTx := hid ht
  have HT := hid hT
  have HTb := hid hTb
  clear hr hl ht hT hTb
  obtain ⟨x0, x1, x2, lk, hp⟩ := Pt.of t
  rw [hp.val]
  have HP := hid hp
  clear hp
  have HX0 := hid (Row.new w 54 #[.int .i64 x0, .int .i64 x1, .string x2, kv])
  have HB0 := hid ((Below.refl w.heap.size w).alloc (Nat.le_refl _) (.cells #[.int .i64 x0, .int .i64 x1, .string x2, kv] 54))
  go_enter Tryd.func8, Tryd.ntmps8
  go_wp2_with fail
  refine (szTerm_v HP.out (HR.out.on HB0.out) HL.out HTx.out (by omega) (by omega)).mono ?_
  rintro e w1 ⟨x, rfl, hx, hb1⟩
  have HB1 := hid (HB0.out.trans (hb1.mono HB0.out.size))
  have HX1 := hid (HX0.out.on hb1)
  have hz1 := hb1.size
  simp only [World.size_alloc] at hz1
  clear hb1
  rcases hx with ⟨hwd, rfl⟩ | ⟨hwd, rfl⟩
  case inr =>
    go_wp2_with fail
    go_ret
    exact ⟨rfl, HB1.out⟩
  have HWd := hid (show t.wide ≤ 1048576 by omega)
  have hsub : 0 ≤ (1048576 : Int) - t.wide := by omega
  obtain ⟨z, hz⟩ : ∃ z : Int, (1048576 : Int) - t.wide = z := ⟨_, rfl⟩
  rw [hz] at hsub ⊢
  clear hz hwd
  have d0 := HX1.out.cell 0
  have d1 := HX1.out.cell 1
  have d2 := HX1.out.cell 2
  have d3 := HX1.out.cell 3
  simp at d0 d1 d2 d3
  go_wp2_with fail
  refine (toTerm_v HP.out (HR.out.on HB1.out) HWd.out).mono ?_
  rintro e w2 ⟨a2, c2, rfl, hown2, hb2⟩
  have HO2 := hid hown2
  have HB2 := hid (HB1.out.trans (hb2.mono HB1.out.size))
  have HX2 := hid (HX1.out.on hb2)
  have hz2 := hb2.size
  clear hown2 hb2 d0 d1 d2 d3
  go_wp2_with fail
  refine (text_of_val (P := fun _ => True) HP.out (sTermText_c n t _ _ HO2.out.rd HWd.out)).mono ?_
  rintro e w3 ⟨rfl, hb3⟩
  have HB3 := hid (HB2.out.trans (hb3.mono HB2.out.size))
  have HX3 := hid (HX2.out.on hb3)
  have hz3 := hb3.size
  clear hb3
  have d0 := HX3.out.cell 0
  have d1 := HX3.out.cell 1
  have d2 := HX3.out.cell 2
  have d3 := HX3.out.cell 3
  simp at d0 d1 d2 d3
  go_wp2_with fail
  refine (toTerm_v HP.out (HR.out.on HB3.out) HWd.out).mono ?_
  rintro e w4 ⟨a4, c4, rfl, hown4, hb4⟩
  have HO4 := hid hown4
  have HB4 := hid (HB3.out.trans (hb4.mono HB3.out.size))
  have HX4 := hid (HX3.out.on hb4)
  have hz4 := hb4.size
  clear hown4 hb4 d0 d1 d2 d3
  have HY4 := hid (Row.new w4 25 #[.int .i64 x0, .int .i64 x1, .string x2, .slice a4 lk c4])
  have HA5 := hid ((Below.refl w4.heap.size w4).alloc (Nat.le_refl _) (.cells #[.int .i64 x0, .int .i64 x1, .string x2, .slice a4 lk c4] 25))
  have HB5 := hid (HB4.out.trans (HA5.out.mono HB4.out.size))
  go_wp2_with fail
  refine (text_of_val (P := fun _ => True) HP.out (termText_c n t _ _ (HO4.out.on HA5.out).rd HWd.out (HT.out.on HB5.out) (HTb.out.on HB5.out))).mono ?_
  rintro e w6 ⟨rfl, hb6⟩
  have HX6 := hid ((HX4.out.on HA5.out).on hb6)
  have HY6 := hid (HY4.out.on hb6)
  have HO6 := hid ((HO4.out.on HA5.out).on hb6)
  have HB6 := hid (HB5.out.trans (hb6.mono HB5.out.size))
  have hz6 := hb6.size
  simp only [World.size_alloc] at hz6
  clear hb6
  have d0 := HX6.out.cell 0
  have d1 := HX6.out.cell 1
  have d2 := HX6.out.cell 2
  have d3 := HX6.out.cell 3
  have y0 := HY6.out.cell 0
  have y1 := HY6.out.cell 1
  have y2 := HY6.out.cell 2
  have y3 := HY6.out.cell 3
  simp at d0 d1 d2 d3 y0 y1 y2 y3
  have hw4 : w4.heap.size < w6.heap.size := by omega
  have hw0 : w.heap.size < w6.heap.size := by omega
  obtain ⟨st, hst⟩ : ∃ s, termTextOf t = s := ⟨_, rfl⟩
  rw [hst]
  clear hst
  all_goals
    go_wp2_with fail
    go_region_with (first
      | (go_at_call 30; refine (toTerm_v HP.out (HR.out.on HB6.out.drew) HWd.out).mono ?_; rintro e w7 ⟨a7, c7, rfl, hown7, hb7⟩; have HO7 := hid hown7; have HB7 := hid hb7; have HY7 := hid (HY6.out.drew.on hb7); have z0 := HY7.out.cell 0; have z1 := HY7.out.cell 1; have z2 := HY7.out.cell 2; have z3 := HY7.out.cell 3; simp at z0 z1 z2 z3; clear hown7 hb7)
      | (go_at_call 32; refine (eqTerm_v HP.out (HO6.out.on ((Below.refl _ _).drew.trans HB7.out)).rd HO7.out.rd HWd.out).mono ?_; rintro e w8 ⟨rfl, hb8⟩))
    all_goals
      have HB8 := hid ((HB6.out.drew.trans (HB7.out.mono HB6.out.drew.size)).trans (hb8.mono (HB6.out.drew.trans (HB7.out.mono HB6.out.drew.size)).size))
      clear hb8 d0 d1 d2 d3 y0 y1 y2 y3
      go_wp2_with fail
      go_ret
      exact ⟨rfl, HB8.out⟩
end Go.Proofs.YtgenojpdjplccaaDoor.Um
