/- The walks of the exact laws over graphs: FnExactGraphOk, FnExactOrderOf, FnExactDominatesIn. -/
import Derived.Test.YtbbhbjdpdhbjlaaGv
import Derived.Test.YtbbhbjdpdhbjlaaGo
import Derived.Test.YtbbhbjdpdhbjlaaGk
set_option linter.unusedSimpArgs false
set_option linter.unusedVariables false
namespace Go.Proofs.Ytbbhbjdpdhbjlaa.Ge
open Go.RowKit Pl Ft Mm In Gp

theorem graphOkB (g : List (List Int)) (v : Value) (B : Nat) (w : World) (h : GAt B w v g) (hs : Sz g) : Calls Try.prog 17 #[v] w fun e w' => e = .returned (.bool (okG g)) ∧ Below w.heap.size w w' :=
  (graphOk_c g v w h.grd hs).mono (by rintro e w' ⟨rfl, rfl⟩; exact ⟨rfl, Below.refl _ _⟩)
theorem sGraphOkB (g : List (List Int)) (v : Value) (B : Nat) (w : World) (h : GAt B w v g) (hs : Sz g) : Calls Try.prog 18 #[v] w fun e w' => e = .returned (.bool (okG g)) ∧ Below w.heap.size w w' :=
  (sGraphOk_c g v w h.grd hs).mono (by rintro e w' ⟨rfl, rfl⟩; exact ⟨rfl, Below.refl _ _⟩)
set_option maxRecDepth 100000 in
set_option maxHeartbeats 2000000 in
theorem exactGraphOk_w (g : List (List Int)) (v : Value) (w : World) (h : GRd w v g) (hl : g.length ≤ 9223372036854775807) (hs : ∀ j, j < g.length → (g.getD j []).length ≤ 9223372036854775807) :
    Calls Try.prog 9 #[v] w fun e w' => e = .returned (.bool true) ∧ Below w.heap.size w w' := by
  have HG := hid h
  obtain ⟨r, hr⟩ : ∃ r, okG g = r := ⟨_, rfl⟩
  have HRr := hid hr
  clear h hr
  go_enter Try.func9, Try.ntmps9
  go_wp2_with fail
  refine (szIntSS_c g v w HG.out hl hs).mono ?_
  rintro e w1 ⟨y, rfl, hy0, hy1, hP, hb1⟩
  have HB1 := hid hb1
  have HP := hid hP
  clear hb1 hP
  by_cases hy : 0 ≤ y
  case neg =>
    go_wp2_with fail
    go_ret
    exact ⟨rfl, HB1.out⟩
  have HZ := hid (show Sz g from ⟨(HP.out hy).1, (HP.out hy).2⟩)
  go_wp2_with fail
  refine (toIntSS_c g v w1 (HG.out.on HB1.out) HZ.out.len HZ.out.each).mono ?_
  rintro e w2 ⟨v2, us2, rfl, hown2, hb2⟩
  have HO2 := hid hown2
  have HB2 := hid (HB1.out.trans (hb2.mono HB1.out.size))
  clear hown2 hb2
  go_wp2_with fail
  refine (sGraphOkB g _ _ w2 HO2.out.at_ HZ.out).mono ?_
  rintro e w3 ⟨rfl, hb3⟩
  rw [HRr.out]
  have HB3 := hid (HB2.out.trans (hb3.mono HB2.out.size))
  clear hb3
  go_wp2_with fail
  refine (toIntSS_c g v w3 (HG.out.on HB3.out) HZ.out.len HZ.out.each).mono ?_
  rintro e w4 ⟨v4, us4, rfl, hown4, hb4⟩
  have HO4 := hid hown4
  have HB4 := hid (HB3.out.trans (hb4.mono HB3.out.size))
  clear hown4 hb4
  go_wp2_with fail
  refine (graphOkB g _ _ w4 HO4.out.at_ HZ.out).mono ?_
  rintro e w5 ⟨rfl, hb5⟩
  rw [HRr.out]
  have HO5 := hid (HO4.out.on hb5)
  have HB5 := hid (HB4.out.trans (hb5.mono HB4.out.size))
  clear hb5
  go_wp2_with fail
  refine (toIntSS_c g v w5 (HG.out.on HB5.out) HZ.out.len HZ.out.each).mono ?_
  rintro e w6 ⟨v6, us6, rfl, hown6, hb6⟩
  have HO6 := hid hown6
  have HX6 := hid (HO5.out.on hb6)
  have HB6 := hid (HB5.out.trans (hb6.mono HB5.out.size))
  clear hown6 hb6
  go_wp2_with fail
  refine (eqIntSS_c g _ _ w6 HX6.out.rd HO6.out.rd HZ.out.len HZ.out.each).mono ?_
  rintro e w7 ⟨rfl, hb7⟩
  have HB7 := hid (HB6.out.trans (hb7.mono HB6.out.size))
  clear hb7
  go_wp2_with fail
  go_ret
  exact ⟨rfl, HB7.out⟩
set_option maxRecDepth 100000 in
set_option maxHeartbeats 2000000 in
theorem exactOrderOf_w (g : List (List Int)) (v : Value) (w : World) (h : GRd w v g) (hl : g.length ≤ 9223372036854775807) (hs : ∀ j, j < g.length → (g.getD j []).length ≤ 9223372036854775807) :
    Calls Try.prog 10 #[v] w fun e w' => e = .returned (.bool true) ∧ Below w.heap.size w w' := by
  have HG := hid h
  obtain ⟨r, hr⟩ : ∃ r, orderS g = r := ⟨_, rfl⟩
  have HRr := hid hr
  have hrl : r.length ≤ 30 := by rw [← hr]; exact orderS_len g
  clear h hr
  go_enter Try.func10, Try.ntmps10
  go_wp2_with fail
  refine (szIntSS_c g v w HG.out hl hs).mono ?_
  rintro e w1 ⟨y, rfl, hy0, hy1, hP, hb1⟩
  have HB1 := hid hb1
  have HP := hid hP
  clear hb1 hP
  by_cases hy : 0 ≤ y
  case neg =>
    go_wp2_with fail
    go_ret
    exact ⟨rfl, HB1.out⟩
  have HZ := hid (show Sz g from ⟨(HP.out hy).1, (HP.out hy).2⟩)
  go_wp2_with fail
  refine (toIntSS_c g v w1 (HG.out.on HB1.out) HZ.out.len HZ.out.each).mono ?_
  rintro e w2 ⟨v2, us2, rfl, hown2, hb2⟩
  have HO2 := hid hown2
  have HB2 := hid (HB1.out.trans (hb2.mono HB1.out.size))
  clear hown2 hb2
  go_wp2_with fail
  refine (sOrderOf_c g _ _ w2 HO2.out.at_ HZ.out).mono ?_
  rintro e w3 ⟨v3, rfl, hown3, hb3⟩
  rw [HRr.out] at hown3
  have HV3 := hid hown3
  have HVlt := hid (fun k hk => (hown3.lt k hk).2)
  have HB3 := hid (HB2.out.trans (hb3.mono HB2.out.size))
  clear hb3 hown3
  go_wp2_with fail
  refine (toIntSS_c g v w3 (HG.out.on HB3.out) HZ.out.len HZ.out.each).mono ?_
  rintro e w4 ⟨v4, us4, rfl, hown4, hb4⟩
  have HO4 := hid hown4
  have HV4 := hid (own_on HV3.out hb4)
  have HB4 := hid (HB3.out.trans (hb4.mono HB3.out.size))
  have hz4 := hb4.size
  clear hown4 hb4
  go_wp2_with fail
  refine (orderOf_c g _ _ w4 HO4.out.at_ HZ.out).mono ?_
  rintro e w5 ⟨v5, rfl, hown5, hb5⟩
  rw [HRr.out] at hown5
  have HI5 := hid hown5
  have HIlo := hid (fun k hk => (hown5.lt k hk).1)
  have HO5 := hid (HO4.out.on hb5)
  have HV5 := hid (own_on HV4.out hb5)
  have HB5 := hid (HB4.out.trans (hb5.mono HB4.out.size))
  clear hown5 hb5
  go_wp2_with fail
  refine (eqIntS_b r v5 v3 w5 (.of_own HI5.out) (.of_own HV5.out) (by omega)).mono ?_
  rintro e w6 ⟨rfl, hb6⟩
  have HI6 := hid (own_on HI5.out hb6)
  have HO6 := hid (HO5.out.on hb6)
  have HV6 := hid (own_on HV5.out hb6)
  have HB6 := hid (HB5.out.trans (hb6.mono HB5.out.size))
  clear hb6
  go_wp2_with fail
  refine (toIntSS_c g v w6 (HG.out.on HB6.out) HZ.out.len HZ.out.each).mono ?_
  rintro e w7 ⟨v7, us7, rfl, hown7, hb7⟩
  have HT7 := hid hown7
  have HI7 := hid (own_on HI6.out hb7)
  have HO7 := hid (HO6.out.on hb7)
  have HV7 := hid (own_on HV6.out hb7)
  have HB7 := hid (HB6.out.trans (hb7.mono HB6.out.size))
  clear hown7 hb7
  go_wp2_with fail
  refine (eqIntSS_c g _ _ w7 HO7.out.rd HT7.out.rd HZ.out.len HZ.out.each).mono ?_
  rintro e w8 ⟨rfl, hb8⟩
  have HI8 := hid (own_on HI7.out hb8)
  have HO8 := hid (HO7.out.on hb8)
  have HV8 := hid (own_on HV7.out hb8)
  have HB8 := hid (HB7.out.trans (hb8.mono HB7.out.size))
  have HUlt := hid (fun j hj k hk => ((HO4.out.lists j hj).lt k hk).2)
  clear hb8
  go_wp2_with fail
  refine (markIntSS_c g v4 us4 w3.heap.size w8 HO8.out HZ.out).mono ?_
  rintro e w9 ⟨q, rfl, hq, ho9⟩
  have HI9 := hid (own_only HI8.out (fun k hk h => by obtain ⟨j, hj, hjk⟩ := h; have h1 := HIlo.out k hk; have h2 := HUlt.out j hj k hjk; omega) ho9)
  have HV9 := hid (own_only HV8.out (fun k hk h => by obtain ⟨j, hj, hjk⟩ := h; have h1 := HVlt.out k hk; have h2 := ((HO4.out.lists j hj).lt k hjk).1; omega) ho9)
  have HB9 := hid (HB8.out.trans (ho9.below HB8.out.size (fun k h => by obtain ⟨j, hj, hjk⟩ := h; have h2 := ((HO4.out.lists j hj).lt k hjk).1; have := HB3.out.size; omega)))
  clear ho9
  go_wp2_with fail
  refine (eqIntS_b r v5 v3 w9 (.of_own HI9.out) (.of_own HV9.out) (by omega)).mono ?_
  rintro e w10 ⟨rfl, hb10⟩
  have HI10 := hid (own_on HI9.out hb10)
  have HV10 := hid (own_on HV9.out hb10)
  have HB10 := hid (HB9.out.trans (hb10.mono HB9.out.size))
  clear hb10
  go_wp2_with fail
  refine (markIntS_c _ r v5 w10 HI10.out (by omega)).mono ?_
  rintro e w11 ⟨rfl, hown11, hb11⟩
  have HI11 := hid hown11
  have HV11 := hid (own_below HV10.out (fun k hk => by have := HVlt.out k hk; omega) hb11)
  have HB11 := hid (HB10.out.trans (hb11.mono (by have := HB4.out.size; omega)))
  clear hown11 hb11
  go_wp2_with fail
  refine (heldIntS_c r.length v5 w11 (.of_own (by rw [upFrom_len]; exact HI11.out)) (by omega)).mono ?_
  rintro e w12 ⟨rfl, rfl⟩
  go_wp2_with fail
  refine (toIntSS_c g v w11 (HG.out.on HB11.out) HZ.out.len HZ.out.each).mono ?_
  rintro e w13 ⟨v13, us13, rfl, hown13, hb13⟩
  have HO13 := hid hown13
  have HI13 := hid (own_on HI11.out hb13)
  have HV13 := hid (own_on HV11.out hb13)
  have HB13 := hid (HB11.out.trans (hb13.mono HB11.out.size))
  clear hown13 hb13
  go_wp2_with fail
  refine (orderOf_c g _ _ w13 HO13.out.at_ HZ.out).mono ?_
  rintro e w14 ⟨v14, rfl, hown14, hb14⟩
  rw [HRr.out] at hown14
  have HH14 := hid hown14
  have HI14 := hid (own_on HI13.out hb14)
  have HV14 := hid (own_on HV13.out hb14)
  have HB14 := hid (HB13.out.trans (hb14.mono HB13.out.size))
  clear hown14 hb14
  go_wp2_with fail
  refine (eqIntS_b r v14 v3 w14 (.of_own HH14.out) (.of_own HV14.out) (by omega)).mono ?_
  rintro e w15 ⟨rfl, hb15⟩
  have HI15 := hid (own_on HI14.out hb15)
  have HB15 := hid (HB14.out.trans (hb15.mono HB14.out.size))
  clear hb15
  go_wp2_with fail
  refine (heldIntS_c r.length v5 w15 (.of_own (by rw [upFrom_len]; exact HI15.out)) (by omega)).mono ?_
  rintro e w16 ⟨rfl, rfl⟩
  go_wp2_with fail
  go_ret
  exact ⟨rfl, HB15.out⟩
set_option maxRecDepth 100000 in
set_option maxHeartbeats 2000000 in
theorem exactDominatesIn_w (g : List (List Int)) (v : Value) (ax : Int) (ay : Int) (w : World) (h : GRd w v g) (hl : g.length ≤ 9223372036854775807) (hs : ∀ j, j < g.length → (g.getD j []).length ≤ 9223372036854775807) :
    Calls Try.prog 12 #[v, .int .i64 ax, .int .i64 ay] w fun e w' => e = .returned (.bool true) ∧ Below w.heap.size w w' := by
  have HG := hid h
  obtain ⟨r, hr⟩ : ∃ r, overS g ax ay = r := ⟨_, rfl⟩
  have HRr := hid hr
  clear h hr
  go_enter Try.func12, Try.ntmps12
  go_wp2_with fail
  refine (szIntSS_c g v w HG.out hl hs).mono ?_
  rintro e w1 ⟨y, rfl, hy0, hy1, hP, hb1⟩
  have HB1 := hid hb1
  have HP := hid hP
  clear hb1 hP
  by_cases hy : 0 ≤ y
  case neg =>
    go_wp2_with fail
    go_ret
    exact ⟨rfl, HB1.out⟩
  have HZ := hid (show Sz g from ⟨(HP.out hy).1, (HP.out hy).2⟩)
  go_wp2_with fail
  refine (toIntSS_c g v w1 (HG.out.on HB1.out) HZ.out.len HZ.out.each).mono ?_
  rintro e w2 ⟨v2, us2, rfl, hown2, hb2⟩
  have HO2 := hid hown2
  have HB2 := hid (HB1.out.trans (hb2.mono HB1.out.size))
  clear hown2 hb2
  go_wp2_with fail
  refine (sDominatesIn_c g ax ay _ _ w2 HO2.out.at_ HZ.out).mono ?_
  rintro e w3 ⟨rfl, hb3⟩
  rw [HRr.out]
  have HB3 := hid (HB2.out.trans (hb3.mono HB2.out.size))
  clear hb3
  go_wp2_with fail
  refine (toIntSS_c g v w3 (HG.out.on HB3.out) HZ.out.len HZ.out.each).mono ?_
  rintro e w4 ⟨v4, us4, rfl, hown4, hb4⟩
  have HO4 := hid hown4
  have HB4 := hid (HB3.out.trans (hb4.mono HB3.out.size))
  clear hown4 hb4
  go_wp2_with fail
  refine (dominatesIn_c g ax ay _ _ w4 HO4.out.at_ HZ.out).mono ?_
  rintro e w5 ⟨rfl, hb5⟩
  rw [HRr.out]
  have HO5 := hid (HO4.out.on hb5)
  have HB5 := hid (HB4.out.trans (hb5.mono HB4.out.size))
  clear hb5
  go_wp2_with fail
  refine (toIntSS_c g v w5 (HG.out.on HB5.out) HZ.out.len HZ.out.each).mono ?_
  rintro e w6 ⟨v6, us6, rfl, hown6, hb6⟩
  have HO6 := hid hown6
  have HX6 := hid (HO5.out.on hb6)
  have HB6 := hid (HB5.out.trans (hb6.mono HB5.out.size))
  clear hown6 hb6
  go_wp2_with fail
  refine (eqIntSS_c g _ _ w6 HX6.out.rd HO6.out.rd HZ.out.len HZ.out.each).mono ?_
  rintro e w7 ⟨rfl, hb7⟩
  have HB7 := hid (HB6.out.trans (hb7.mono HB6.out.size))
  clear hb7
  go_wp2_with fail
  go_ret
  exact ⟨rfl, HB7.out⟩
end Go.Proofs.Ytbbhbjdpdhbjlaa.Ge
