/- binary, memAt of the model; cellIn, memory of the program. -/
import Derived.Test.YtffibmlgdacafaaDoorUj
import Derived.Deep.DeepCutAuto
set_option linter.unusedSimpArgs false
set_option linter.unusedVariables false
namespace Go.Proofs.YtffibmlgdacafaaDoor.Um
open Go.RowKit Pl Ft Mm In C2 Im
open C1 (fEq fLess fLow hol)

theorem place_lit : ∀ k, k < 9 → placeIn opsTexts (oprs.getD k .none).text = k := by
  intro k hk
  have e : ∀ j, j < 9 → (opsTexts.getD j ⟨#[]⟩) = (oprs.getD j .none).text := by
    intro j hj
    have h9 : j = 0 ∨ j = 1 ∨ j = 2 ∨ j = 3 ∨ j = 4 ∨ j = 5 ∨ j = 6 ∨ j = 7 ∨ j = 8 := by omega
    rcases h9 with rfl | rfl | rfl | rfl | rfl | rfl | rfl | rfl | rfl <;> rfl
  refine placeIn_at hk (by rw [e k hk]; simp) ?_
  intro j hj
  have hj9 : j < 9 := by omega
  rw [e j hj9]
  simp only [ByteArray.toList_eq]
  clear e
  revert j
  revert k
  decide
set_option maxHeartbeats 4000000 in
theorem binary_c (s : ByteArray) (a b : Int) (w : World) (h : isOp s = true) (ha : isW a = true) (hb : isW b = true) :
    Calls Tryd.prog 143 #[.string s, .int .i64 a, .int .i64 b] w fun e w' => e = .returned (.int .i64 (opVal s a b)) ∧ Below w.heap.size w w' := by
  obtain ⟨k, hk, hs⟩ := op_mem h
  have HV := hid (show opVal s a b = opOf (oprs.getD k .none) a b by rw [hs]; exact opVal_lit hk a b)
  have HPl := hid (show placeIn opsTexts s = k by rw [hs]; exact place_lit k hk)
  have HA := hid ha
  have HB := hid hb
  have HAl := hid (show (k : Int) ≤ 5 → aluDo k a b = alu k a b by
    intro h5
    unfold aluDo
    rw [ha, hb, decide_eq_true (show 0 ≤ (k : Int) ∧ (k : Int) ≤ 5 by omega)]
    rfl)
  clear ha hb h
  have h9 : k = 0 ∨ k = 1 ∨ k = 2 ∨ k = 3 ∨ k = 4 ∨ k = 5 ∨ k = 6 ∨ k = 7 ∨ k = 8 := by omega
  rcases h9 with rfl | rfl | rfl | rfl | rfl | rfl | rfl | rfl | rfl
  · have e : s = ⟨#[43]⟩ := hs
    clear hs
    subst e
    have HF := hid (show alu 0 a b = opVal ⟨#[43]⟩ a b from ((HV.out.trans (show opOf (oprs.getD 0 .none) a b = aluDo 0 a b from rfl)).trans (HAl.out (by omega))).symm)
    go_enter Tryd.func143, Tryd.ntmps143
    go_wp2_with fail
    refine (C1.compared_c a b HA.out HB.out _).mono ?_
    rintro e w1 ⟨rfl, hb1⟩
    generalize fEq a b = p1
    generalize fLess a b = p2
    generalize fLow a b = p3
    have HB1a := hid (hb1.alloc hb1.size (.cells #[.bool p1, .bool p2, .bool p3] 49))
    clear hb1
    go_wp2_with fail
    refine (operators_c _).mono ?_
    rintro e w2 ⟨v, rfl, hr, hb2⟩
    have HR := hid hr
    have HB2 := hid (HB1a.out.trans (hb2.mono HB1a.out.size))
    clear hr hb2
    go_wp2_with fail
    refine (textAt_c opsTexts v _ _ HR.out (by decide)).mono ?_
    rw [HPl.out]
    rintro e w3 ⟨rfl, rfl⟩
    go_wp2_with fail
    refine (C1.alu_c 0 a b (by omega) (by omega) HA.out HB.out _).mono ?_
    rw [HF.out]
    rintro e w4 ⟨rfl, rfl⟩
    go_wp2_with fail
    go_ret
    exact ⟨rfl, HB2.out⟩
  · have e : s = ⟨#[45]⟩ := hs
    clear hs
    subst e
    have HF := hid (show alu 1 a b = opVal ⟨#[45]⟩ a b from ((HV.out.trans (show opOf (oprs.getD 1 .none) a b = aluDo 1 a b from rfl)).trans (HAl.out (by omega))).symm)
    go_enter Tryd.func143, Tryd.ntmps143
    go_wp2_with fail
    refine (C1.compared_c a b HA.out HB.out _).mono ?_
    rintro e w1 ⟨rfl, hb1⟩
    generalize fEq a b = p1
    generalize fLess a b = p2
    generalize fLow a b = p3
    have HB1a := hid (hb1.alloc hb1.size (.cells #[.bool p1, .bool p2, .bool p3] 49))
    clear hb1
    go_wp2_with fail
    refine (operators_c _).mono ?_
    rintro e w2 ⟨v, rfl, hr, hb2⟩
    have HR := hid hr
    have HB2 := hid (HB1a.out.trans (hb2.mono HB1a.out.size))
    clear hr hb2
    go_wp2_with fail
    refine (textAt_c opsTexts v _ _ HR.out (by decide)).mono ?_
    rw [HPl.out]
    rintro e w3 ⟨rfl, rfl⟩
    go_wp2_with fail
    refine (C1.alu_c 1 a b (by omega) (by omega) HA.out HB.out _).mono ?_
    rw [HF.out]
    rintro e w4 ⟨rfl, rfl⟩
    go_wp2_with fail
    go_ret
    exact ⟨rfl, HB2.out⟩
  · have e : s = ⟨#[42]⟩ := hs
    clear hs
    subst e
    have HF := hid (show alu 2 a b = opVal ⟨#[42]⟩ a b from ((HV.out.trans (show opOf (oprs.getD 2 .none) a b = aluDo 2 a b from rfl)).trans (HAl.out (by omega))).symm)
    go_enter Tryd.func143, Tryd.ntmps143
    go_wp2_with fail
    refine (C1.compared_c a b HA.out HB.out _).mono ?_
    rintro e w1 ⟨rfl, hb1⟩
    generalize fEq a b = p1
    generalize fLess a b = p2
    generalize fLow a b = p3
    have HB1a := hid (hb1.alloc hb1.size (.cells #[.bool p1, .bool p2, .bool p3] 49))
    clear hb1
    go_wp2_with fail
    refine (operators_c _).mono ?_
    rintro e w2 ⟨v, rfl, hr, hb2⟩
    have HR := hid hr
    have HB2 := hid (HB1a.out.trans (hb2.mono HB1a.out.size))
    clear hr hb2
    go_wp2_with fail
    refine (textAt_c opsTexts v _ _ HR.out (by decide)).mono ?_
    rw [HPl.out]
    rintro e w3 ⟨rfl, rfl⟩
    go_wp2_with fail
    refine (C1.alu_c 2 a b (by omega) (by omega) HA.out HB.out _).mono ?_
    rw [HF.out]
    rintro e w4 ⟨rfl, rfl⟩
    go_wp2_with fail
    go_ret
    exact ⟨rfl, HB2.out⟩
  · have e : s = ⟨#[38]⟩ := hs
    clear hs
    subst e
    have HF := hid (show alu 3 a b = opVal ⟨#[38]⟩ a b from ((HV.out.trans (show opOf (oprs.getD 3 .none) a b = aluDo 3 a b from rfl)).trans (HAl.out (by omega))).symm)
    go_enter Tryd.func143, Tryd.ntmps143
    go_wp2_with fail
    refine (C1.compared_c a b HA.out HB.out _).mono ?_
    rintro e w1 ⟨rfl, hb1⟩
    generalize fEq a b = p1
    generalize fLess a b = p2
    generalize fLow a b = p3
    have HB1a := hid (hb1.alloc hb1.size (.cells #[.bool p1, .bool p2, .bool p3] 49))
    clear hb1
    go_wp2_with fail
    refine (operators_c _).mono ?_
    rintro e w2 ⟨v, rfl, hr, hb2⟩
    have HR := hid hr
    have HB2 := hid (HB1a.out.trans (hb2.mono HB1a.out.size))
    clear hr hb2
    go_wp2_with fail
    refine (textAt_c opsTexts v _ _ HR.out (by decide)).mono ?_
    rw [HPl.out]
    rintro e w3 ⟨rfl, rfl⟩
    go_wp2_with fail
    refine (C1.alu_c 3 a b (by omega) (by omega) HA.out HB.out _).mono ?_
    rw [HF.out]
    rintro e w4 ⟨rfl, rfl⟩
    go_wp2_with fail
    go_ret
    exact ⟨rfl, HB2.out⟩
  · have e : s = ⟨#[124]⟩ := hs
    clear hs
    subst e
    have HF := hid (show alu 4 a b = opVal ⟨#[124]⟩ a b from ((HV.out.trans (show opOf (oprs.getD 4 .none) a b = aluDo 4 a b from rfl)).trans (HAl.out (by omega))).symm)
    go_enter Tryd.func143, Tryd.ntmps143
    go_wp2_with fail
    refine (C1.compared_c a b HA.out HB.out _).mono ?_
    rintro e w1 ⟨rfl, hb1⟩
    generalize fEq a b = p1
    generalize fLess a b = p2
    generalize fLow a b = p3
    have HB1a := hid (hb1.alloc hb1.size (.cells #[.bool p1, .bool p2, .bool p3] 49))
    clear hb1
    go_wp2_with fail
    refine (operators_c _).mono ?_
    rintro e w2 ⟨v, rfl, hr, hb2⟩
    have HR := hid hr
    have HB2 := hid (HB1a.out.trans (hb2.mono HB1a.out.size))
    clear hr hb2
    go_wp2_with fail
    refine (textAt_c opsTexts v _ _ HR.out (by decide)).mono ?_
    rw [HPl.out]
    rintro e w3 ⟨rfl, rfl⟩
    go_wp2_with fail
    refine (C1.alu_c 4 a b (by omega) (by omega) HA.out HB.out _).mono ?_
    rw [HF.out]
    rintro e w4 ⟨rfl, rfl⟩
    go_wp2_with fail
    go_ret
    exact ⟨rfl, HB2.out⟩
  · have e : s = ⟨#[94]⟩ := hs
    clear hs
    subst e
    have HF := hid (show alu 5 a b = opVal ⟨#[94]⟩ a b from ((HV.out.trans (show opOf (oprs.getD 5 .none) a b = aluDo 5 a b from rfl)).trans (HAl.out (by omega))).symm)
    go_enter Tryd.func143, Tryd.ntmps143
    go_wp2_with fail
    refine (C1.compared_c a b HA.out HB.out _).mono ?_
    rintro e w1 ⟨rfl, hb1⟩
    generalize fEq a b = p1
    generalize fLess a b = p2
    generalize fLow a b = p3
    have HB1a := hid (hb1.alloc hb1.size (.cells #[.bool p1, .bool p2, .bool p3] 49))
    clear hb1
    go_wp2_with fail
    refine (operators_c _).mono ?_
    rintro e w2 ⟨v, rfl, hr, hb2⟩
    have HR := hid hr
    have HB2 := hid (HB1a.out.trans (hb2.mono HB1a.out.size))
    clear hr hb2
    go_wp2_with fail
    refine (textAt_c opsTexts v _ _ HR.out (by decide)).mono ?_
    rw [HPl.out]
    rintro e w3 ⟨rfl, rfl⟩
    go_wp2_with fail
    refine (C1.alu_c 5 a b (by omega) (by omega) HA.out HB.out _).mono ?_
    rw [HF.out]
    rintro e w4 ⟨rfl, rfl⟩
    go_wp2_with fail
    go_ret
    exact ⟨rfl, HB2.out⟩
  · have e : s = ⟨#[61, 61]⟩ := hs
    clear hs
    subst e
    go_enter Tryd.func143, Tryd.ntmps143
    go_wp2_with fail
    refine (C1.compared_c a b HA.out HB.out _).mono ?_
    rintro e w1 ⟨rfl, hb1⟩
    have HF := hid (show (if fEq a b then (1 : Int) else 0) = opVal ⟨#[61, 61]⟩ a b from HV.out.symm)
    generalize fEq a b = p1 at HF ⊢
    generalize fLess a b = p2 at HF ⊢
    generalize fLow a b = p3 at HF ⊢
    have HB1a := hid (hb1.alloc hb1.size (.cells #[.bool p1, .bool p2, .bool p3] 49))
    clear hb1
    go_wp2_with fail
    refine (bit_c _ _).mono ?_
    rw [HF.out]
    rintro e w2 ⟨rfl, rfl⟩
    go_wp2_with fail
    go_ret
    exact ⟨rfl, HB1a.out⟩
  · have e : s = ⟨#[60]⟩ := hs
    clear hs
    subst e
    go_enter Tryd.func143, Tryd.ntmps143
    go_wp2_with fail
    refine (C1.compared_c a b HA.out HB.out _).mono ?_
    rintro e w1 ⟨rfl, hb1⟩
    have HF := hid (show (if fLess a b then (1 : Int) else 0) = opVal ⟨#[60]⟩ a b from HV.out.symm)
    generalize fEq a b = p1 at HF ⊢
    generalize fLess a b = p2 at HF ⊢
    generalize fLow a b = p3 at HF ⊢
    have HB1a := hid (hb1.alloc hb1.size (.cells #[.bool p1, .bool p2, .bool p3] 49))
    clear hb1
    go_wp2_with fail
    refine (bit_c _ _).mono ?_
    rw [HF.out]
    rintro e w2 ⟨rfl, rfl⟩
    go_wp2_with fail
    go_ret
    exact ⟨rfl, HB1a.out⟩
  · have e : s = ⟨#[60, 60]⟩ := hs
    clear hs
    subst e
    go_enter Tryd.func143, Tryd.ntmps143
    go_wp2_with fail
    refine (C1.compared_c a b HA.out HB.out _).mono ?_
    rintro e w1 ⟨rfl, hb1⟩
    have HF := hid (show (if fLow a b then (1 : Int) else 0) = opVal ⟨#[60, 60]⟩ a b from HV.out.symm)
    generalize fEq a b = p1 at HF ⊢
    generalize fLess a b = p2 at HF ⊢
    generalize fLow a b = p3 at HF ⊢
    have HB1a := hid (hb1.alloc hb1.size (.cells #[.bool p1, .bool p2, .bool p3] 49))
    clear hb1
    go_wp2_with fail
    refine (bit_c _ _).mono ?_
    rw [HF.out]
    rintro e w2 ⟨rfl, rfl⟩
    go_wp2_with fail
    go_ret
    exact ⟨rfl, HB1a.out⟩
end Go.Proofs.YtffibmlgdacafaaDoor.Um
