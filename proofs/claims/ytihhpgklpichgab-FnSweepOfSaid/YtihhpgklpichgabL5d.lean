/- FnSweepOf: the draw and the walk. -/
import Derived.Test.YtihhpgklpichgabSb3
import Derived.Test.YtihhpgklpichgabDraw3
set_option linter.unusedSimpArgs false
set_option linter.unusedVariables false
namespace Go.Proofs.Ytihhpgklpichgab.Sw
open Go.RowKit Pl Ft Mm In C2 Im Wk Src

theorem drawSweepOf_c (a : Option Addr) (len cap : Nat) (zs : List Int) (w : World) (hB : Bytes w a len zs) :
    Calls Try.prog 52 #[.slice a len cap] w fun e w' => ∃ (v : Value) (xs : List Int), e = .returned v ∧ w'.ownsRow w.heap.size 3 1 v xs.length (ints xs) ∧ xs.length ≤ 100 ∧ Below w.heap.size w w' := by
  have H := hid hB
  clear hB
  go_enter Try.func52, Try.ntmps52
  go_wp2_with fail
  refine (from_c a len cap zs w H.out).mono ?_
  rintro e w1 ⟨sb, rfl, hsb, s1, b1⟩
  have S1 := hid s1
  have B1 := hid b1
  clear s1 b1
  go_wp2_with fail
  refine (bytes_c sb a len cap zs 0 w1 S1.out (by omega)).mono ?_
  rintro e w2 ⟨v, xs, k2, rfl, hown, hx1, hx2, hk2, hk2', s2, m2⟩
  obtain ⟨sx, cx, rfl⟩ := own_slice hown
  have HO2 := hid hown
  have B2 := hid (m2.below B1.out hsb B1.out.size)
  clear s2 m2 hown
  go_wp2_with fail
  go_ret
  exact ⟨_, xs, rfl, own_mono HO2.out B1.out.size, hx2, B2.out⟩
theorem SameLines_c (xs ys : List ILine) (va vb : Value) (w : World) (ha : CRd w va xs.length (lnCells xs)) (hb : CRd w vb ys.length (lnCells ys)) (hx : xs.length ≤ 1048576) (hy : ys.length ≤ 1048576) :
    Calls Try.prog 53 #[va, vb] w (EqPost (eqLines xs ys) w) := by
  have HA := hid ha
  have HB := hid hb
  obtain ⟨a, ca, rfl⟩ := ha.slice
  obtain ⟨b, cb, rfl⟩ := hb.slice
  clear ha hb
  go_enter Try.func53, Try.ntmps53
  go_wp2_with fail
  refine (sameLines_c xs ys _ _ _ HA.out HB.out hx hy).mono ?_
  rintro e w1 ⟨rfl, m, rfl⟩
  go_wp2_with fail
  go_ret
  exact ⟨rfl, _, rfl⟩
theorem eqLines_self (l : List ILine) : eqLines l l = true := by unfold eqLines; simp
set_option maxRecDepth 100000 in
set_option maxHeartbeats 2000000 in
theorem sweepOf_w (a : Option Addr) (len cap : Nat) (zs : List Int) (w : World) (hB : Bytes w a len zs) :
    Calls Try.prog 13 #[.slice a len cap] w fun e w' => e = .returned (.bool true) ∧ Below w.heap.size w w' := by
  have hs := hB.small
  have H := hid hB
  clear hB
  go_enter Try.func13, Try.ntmps13
  go_wp2_with fail
  refine (drawSweepOf_c a len cap zs w H.out).mono ?_
  rintro e w1 ⟨v1, xs, rfl, hown1, hx1, b1⟩
  obtain ⟨s1, c1, rfl⟩ := own_slice hown1
  have HX1 := hid hown1
  have B1 := hid b1
  have HCap := hid (own_cap3 hown1)
  clear hown1 b1
  have hll := sweepOf_len xs
  have HSb := hid (fun h => sweepBytes_sweep (code := xs) h)
  obtain ⟨L, hL⟩ : ∃ L, sweepOf xs = L := ⟨_, rfl⟩
  rw [hL] at hll HSb
  have HL := hid hL
  clear hL
  go_wp2_with fail
  refine (sweepOf_c xs _ _ (.of_own HX1.out) HCap.out (by omega)).mono ?_
  rintro e w2 ⟨v2, rfl, hown2, hb2⟩
  rw [HL.out] at hown2
  obtain ⟨s2, c2, rfl⟩ := own_slice hown2
  have HG2 := hid hown2
  have HX2 := hid (own_on HX1.out hb2)
  have B2 := hid (B1.out.trans (hb2.mono B1.out.size))
  clear hown2 hb2
  go_wp2_with fail
  refine (sSweepOf_c xs _ _ (.of_own HX2.out) (by omega)).mono ?_
  rintro e w3 ⟨v3, rfl, hown3, hb3⟩
  rw [HL.out] at hown3
  obtain ⟨s3, c3, rfl⟩ := own_slice hown3
  have HW3 := hid hown3
  have HG3 := hid (own_on HG2.out hb3)
  have HX3 := hid (own_on HX2.out hb3)
  have B3 := hid (B2.out.trans (hb3.mono B2.out.size))
  clear hown3 hb3
  go_wp2_with fail
  refine (SameLines_c L L _ _ _ (.of_own HG3.out) (.of_own HW3.out) (by omega) (by omega)).mono ?_
  rw [eqLines_self]
  rintro e w4 ⟨rfl, m4, rfl⟩
  have HG4 := hid (own_on HG3.out (below_drewN w3 m4))
  have HX4 := hid (own_on HX3.out (below_drewN w3 m4))
  have B4 := hid (B3.out.trans ((below_drewN w3 m4).mono B3.out.size))
  by_cases h0 : L = []
  · subst h0
    go_wp2_with fail
    go_ret
    exact ⟨rfl, B4.out⟩
  have hpos : 0 < L.length := List.length_pos_iff.2 h0
  have HE := hid (HSb.out h0)
  have hne : ((L.length : Int) == 0) = false := by rw [beq_eq_false_iff_ne]; omega
  have hne2 : ¬ L.length = 0 := by omega
  clear h0
  go_wp2_with fail
  refine (sweepBytes_c L _ _ (.of_own HG4.out) (by omega)).mono ?_
  rw [HE.out]
  rintro e w5 ⟨v5, rfl, hown5, hb5⟩
  simp only [Option.getD_some] at hown5
  simp only [Option.isSome_some]
  have HV5 := hid hown5
  have HX5 := hid (own_on HX4.out hb5)
  have B5 := hid (B4.out.trans (hb5.mono B4.out.size))
  obtain ⟨s5, c5, rfl⟩ := own_slice hown5
  clear hown5 hb5
  go_wp2_with fail
  refine (SameInts_b xs _ _ _ (.of_own HV5.out) (.of_own HX5.out) (by omega)).mono ?_
  rintro e w6 ⟨rfl, hb6⟩
  have B6 := hid (B5.out.trans (hb6.mono B5.out.size))
  clear hb6
  go_wp2_with fail
  go_ret
  exact ⟨rfl, B6.out⟩
end Go.Proofs.Ytihhpgklpichgab.Sw
