/- Terms that are drawn: term of the model's source. -/
import Derived.Test.YtffibmlgdacafaaDoorYb
set_option linter.unusedSimpArgs false
set_option linter.unusedVariables false
namespace Go.Proofs.YtffibmlgdacafaaDoor.Um
open Go.RowKit Pl Ft Mm In C2 Im Src

set_option maxRecDepth 100000 in
set_option maxHeartbeats 4000000 in
theorem term0_c (W : Nat) (hW : 2 ≤ W) (sb : Nat) (a : Option Addr) (len cap : Nat) (zs : List Int) (k : Int) (w : World) (h : Src.Src w sb a len cap zs k) (hk : k + 20 ≤ 999000000) :
    Calls Tryd.prog 49 #[.pointer (some ⟨sb, 0, none⟩), .int .i64 0] w (DrT sb a len cap zs k 20 0 W w) := by
  have HSb := hid h.here
  have HS0 := hid (h.alloc (.cells #[.int .i64 0, .int .i64 0, .string ⟨#[]⟩, .slice none 0 0] 28))
  have HM0 := hid ((Moved.refl sb w).alloc (.cells #[.int .i64 0, .int .i64 0, .string ⟨#[]⟩, .slice none 0 0] 28))
  have HZ0 := hid (Row.new w 28 #[.int .i64 0, .int .i64 0, .string ⟨#[]⟩, .slice none 0 0])
  clear h
  go_enter Tryd.func49, Tryd.ntmps49
  go_wp2_with fail
  refine (pick_c 2 sb a len cap zs k _ HS0.out (by omega) (by omega)).mono ?_
  rintro e w1 ⟨v2, k0, rfl, ⟨v20, v21⟩, hk0, hl0, hs, hm⟩
  have HS1 := hid hs
  have HM1 := hid (HM0.out.trans hm)
  have HZ1 := hid (show Row w1 w.heap.size 28 #[.int .i64 0, .int .i64 0, .string ⟨#[]⟩, .slice none 0 0] from (hm.block _ HZ0.out.lt (by have := HSb.out; omega)).trans HZ0.out)
  clear hs hm
  by_cases hv2 : v2 = 0
  · subst hv2
    go_wp2_with fail
    refine (word_c sb a len cap zs k0 _ HS1.out (by omega)).mono ?_
    rintro e w2 ⟨wv, k1, rfl, ⟨wv0, wv1⟩, hk1, hl1, hs, hm⟩
    have HS2 := hid hs
    have HM2 := hid (HM1.out.trans hm)
    have HZ2 := hid (show Row w2 w.heap.size 28 #[.int .i64 0, .int .i64 0, .string ⟨#[]⟩, .slice none 0 0] from (hm.block _ HZ1.out.lt (by have := HSb.out; omega)).trans HZ1.out)
    clear hs hm
    go_wp2_with fail
    refine (num_w wv (by omega) _).mono ?_
    rintro e w3 ⟨rfl, hb⟩
    have HM3 := hid (HM2.out.below' hb)
    have HZ3 := hid (HZ2.out.on hb)
    have HS3 := hid (HS2.out.below' hb)
    clear hb
    rw [nT_val]
    have r0 := HZ3.out.cell 0
    have r1 := HZ3.out.cell 1
    have r2 := HZ3.out.cell 2
    have r3 := HZ3.out.cell 3
    simp at r0 r1 r2 r3
    have hfr := HZ3.out.free
    go_wp2_with fail
    clear r0 r1 r2 r3 hfr
    refine bodyPost_ret (v := .agg #[.int .i64 0, .int .i64 wv, .string ⟨#[]⟩, .slice none 0 0])
      (results_cell_row Tryd.results49 _ _ w.heap.size 28 #[.int .i64 0, .int .i64 wv, .string ⟨#[]⟩, .slice none 0 0] (0, 0) _ rfl (four_row HZ3.out (.int .i64 0) (.int .i64 wv) (.string ⟨#[]⟩) (.slice none 0 0)) Tryd.underlying28 rfl size_term) rfl ?_
    exact drt_end (t := nT wv) HSb.out HS3.out HM3.out (kp_nil _) (by rw [nT_wide]; omega) (by omega) (by omega) rfl
  have hb2 : (v2 == 0) = false := by simpa using hv2
  clear hv2
  go_wp2_with fail
  refine (variable_c sb a len cap zs k0 _ HS1.out (by omega)).mono ?_
  rintro e w2 ⟨vs, k1, rfl, hvs, hk1, hl1, hs, hm⟩
  have HS2 := hid hs
  have HVvs := hid (var_small hvs)
  have HM2 := hid (HM1.out.trans hm)
  have HZ2 := hid (show Row w2 w.heap.size 28 #[.int .i64 0, .int .i64 0, .string ⟨#[]⟩, .slice none 0 0] from (hm.block _ HZ1.out.lt (by have := HSb.out; omega)).trans HZ1.out)
  clear hs hm hvs
  go_wp2_with fail
  refine (varTerm_c vs _).mono ?_
  rintro e w3 ⟨rfl, hb⟩
  have HM3 := hid (HM2.out.below' hb)
  have HZ3 := hid (HZ2.out.on hb)
  have HS3 := hid (HS2.out.below' hb)
  clear hb
  rw [vT_val]
  have r0 := HZ3.out.cell 0
  have r1 := HZ3.out.cell 1
  have r2 := HZ3.out.cell 2
  have r3 := HZ3.out.cell 3
  simp at r0 r1 r2 r3
  have hfr := HZ3.out.free
  go_wp2_with fail
  clear r0 r1 r2 r3 hfr
  refine bodyPost_ret (v := .agg #[.int .i64 1, .int .i64 0, .string vs, .slice none 0 0])
    (results_cell_row Tryd.results49 _ _ w.heap.size 28 #[.int .i64 1, .int .i64 0, .string vs, .slice none 0 0] (0, 0) _ rfl (four_row HZ3.out (.int .i64 1) (.int .i64 0) (.string vs) (.slice none 0 0)) Tryd.underlying28 rfl size_term) rfl ?_
  exact drt_end (t := vT vs) HSb.out HS3.out HM3.out (kp_nil _) (by rw [vT_wide]; have := HVvs.out; omega) (by omega) (by omega) rfl
set_option maxRecDepth 100000 in
set_option maxHeartbeats 8000000 in
theorem termS_c (K : Int) (n W : Nat) (x : Int) (h1 : 1 ≤ x) (h2 : x ≤ 10) (hK : 0 ≤ K) (ih : ∀ (sb : Nat) (a : Option Addr) (len cap : Nat) (zs : List Int) (k : Int) (w : World), Src.Src w sb a len cap zs k → k + K ≤ 999000000 → Calls Tryd.prog 49 #[.pointer (some ⟨sb, 0, none⟩), .int .i64 (x - 1)] w (DrT sb a len cap zs k K n W w))
    (sb : Nat) (a : Option Addr) (len cap : Nat) (zs : List Int) (k : Int) (w : World) (h : Src.Src w sb a len cap zs k) (hk : k + (2 * K + 20) ≤ 999000000) :
    Calls Tryd.prog 49 #[.pointer (some ⟨sb, 0, none⟩), .int .i64 x] w (DrT sb a len cap zs k (2 * K + 20) (n + 2) (2 * W + 20) w) := by
  have HSb := hid h.here
  have HS0 := hid (h.alloc (.cells #[.int .i64 0, .int .i64 0, .string ⟨#[]⟩, .slice none 0 0] 28))
  have HM0 := hid ((Moved.refl sb w).alloc (.cells #[.int .i64 0, .int .i64 0, .string ⟨#[]⟩, .slice none 0 0] 28))
  have HZ0 := hid (Row.new w 28 #[.int .i64 0, .int .i64 0, .string ⟨#[]⟩, .slice none 0 0])
  clear h
  have hx1 : ¬ x < 1 := by omega
  go_enter Tryd.func49, Tryd.ntmps49
  go_wp2_with fail
  refine (pick_c 4 sb a len cap zs k _ HS0.out (by omega) (by omega)).mono ?_
  rintro e w1 ⟨v4, k0, rfl, ⟨v40, v41⟩, hk0, hl0, hs, hm⟩
  have HS1 := hid hs
  have HM1 := hid (HM0.out.trans hm)
  have HZ1 := hid (show Row w1 w.heap.size 28 #[.int .i64 0, .int .i64 0, .string ⟨#[]⟩, .slice none 0 0] from (hm.block _ HZ0.out.lt (by have := HSb.out; omega)).trans HZ0.out)
  clear hs hm
  by_cases e0 : v4 = 0
  · subst e0
    go_wp2_with fail
    refine (pick_c 2 sb a len cap zs k0 _ HS1.out (by omega) (by omega)).mono ?_
    rintro e w2 ⟨v2, k1, rfl, ⟨v20, v21⟩, hk1, hl1, hs, hm⟩
    have HS2 := hid hs
    have HM2 := hid (HM1.out.trans hm)
    have HZ2 := hid (show Row w2 w.heap.size 28 #[.int .i64 0, .int .i64 0, .string ⟨#[]⟩, .slice none 0 0] from (hm.block _ HZ1.out.lt (by have := HSb.out; omega)).trans HZ1.out)
    clear hs hm
    by_cases hv2 : v2 = 0
    · subst hv2
      go_wp2_with fail
      refine (word_c sb a len cap zs k1 _ HS2.out (by omega)).mono ?_
      rintro e w3 ⟨wv, k2, rfl, ⟨wv0, wv1⟩, hk2, hl2, hs, hm⟩
      have HS3 := hid hs
      have HM3 := hid (HM2.out.trans hm)
      have HZ3 := hid (show Row w3 w.heap.size 28 #[.int .i64 0, .int .i64 0, .string ⟨#[]⟩, .slice none 0 0] from (hm.block _ HZ2.out.lt (by have := HSb.out; omega)).trans HZ2.out)
      clear hs hm
      go_wp2_with fail
      refine (num_w wv (by omega) _).mono ?_
      rintro e w4 ⟨rfl, hb⟩
      have HM4 := hid (HM3.out.below' hb)
      have HZ4 := hid (HZ3.out.on hb)
      have HS4 := hid (HS3.out.below' hb)
      clear hb
      rw [nT_val]
      have r0 := HZ4.out.cell 0
      have r1 := HZ4.out.cell 1
      have r2 := HZ4.out.cell 2
      have r3 := HZ4.out.cell 3
      simp at r0 r1 r2 r3
      have hfr := HZ4.out.free
      go_wp2_with fail
      clear r0 r1 r2 r3 hfr
      refine bodyPost_ret (v := .agg #[.int .i64 0, .int .i64 wv, .string ⟨#[]⟩, .slice none 0 0])
        (results_cell_row Tryd.results49 _ _ w.heap.size 28 #[.int .i64 0, .int .i64 wv, .string ⟨#[]⟩, .slice none 0 0] (0, 0) _ rfl (four_row HZ4.out (.int .i64 0) (.int .i64 wv) (.string ⟨#[]⟩) (.slice none 0 0)) Tryd.underlying28 rfl size_term) rfl ?_
      exact drt_end (t := nT wv) HSb.out HS4.out HM4.out (kp_nil _) (by rw [nT_wide]; omega) (by omega) (by omega) rfl
    have hb2 : (v2 == 0) = false := by simpa using hv2
    clear hv2
    go_wp2_with fail
    refine (variable_c sb a len cap zs k1 _ HS2.out (by omega)).mono ?_
    rintro e w3 ⟨vs, k2, rfl, hvs, hk2, hl2, hs, hm⟩
    have HS3 := hid hs
    have HVvs := hid (var_small hvs)
    have HM3 := hid (HM2.out.trans hm)
    have HZ3 := hid (show Row w3 w.heap.size 28 #[.int .i64 0, .int .i64 0, .string ⟨#[]⟩, .slice none 0 0] from (hm.block _ HZ2.out.lt (by have := HSb.out; omega)).trans HZ2.out)
    clear hs hm hvs
    go_wp2_with fail
    refine (varTerm_c vs _).mono ?_
    rintro e w4 ⟨rfl, hb⟩
    have HM4 := hid (HM3.out.below' hb)
    have HZ4 := hid (HZ3.out.on hb)
    have HS4 := hid (HS3.out.below' hb)
    clear hb
    rw [vT_val]
    have r0 := HZ4.out.cell 0
    have r1 := HZ4.out.cell 1
    have r2 := HZ4.out.cell 2
    have r3 := HZ4.out.cell 3
    simp at r0 r1 r2 r3
    have hfr := HZ4.out.free
    go_wp2_with fail
    clear r0 r1 r2 r3 hfr
    refine bodyPost_ret (v := .agg #[.int .i64 1, .int .i64 0, .string vs, .slice none 0 0])
      (results_cell_row Tryd.results49 _ _ w.heap.size 28 #[.int .i64 1, .int .i64 0, .string vs, .slice none 0 0] (0, 0) _ rfl (four_row HZ4.out (.int .i64 1) (.int .i64 0) (.string vs) (.slice none 0 0)) Tryd.underlying28 rfl size_term) rfl ?_
    exact drt_end (t := vT vs) HSb.out HS4.out HM4.out (kp_nil _) (by rw [vT_wide]; have := HVvs.out; omega) (by omega) (by omega) rfl
  have b0 : (v4 == 0) = false := by simpa using e0
  clear e0
  go_wp2_with fail
  clear b0
  refine (pick_c 9 sb a len cap zs k0 _ HS1.out (by omega) (by omega)).mono ?_
  rintro e w2 ⟨v9, k1, rfl, ⟨v90, v91⟩, hk1, hl1, hs, hm⟩
  have HS2 := hid hs
  have HM2 := hid (HM1.out.trans hm)
  have HZ2 := hid (show Row w2 w.heap.size 28 #[.int .i64 0, .int .i64 0, .string ⟨#[]⟩, .slice none 0 0] from (hm.block _ HZ1.out.lt (by have := HSb.out; omega)).trans HZ1.out)
  clear hs hm
  by_cases e1 : v9 = 0
  · subst e1
    go_wp2_with fail
    have HLtHKt := hid (show w.heap.size < w2.heap.size from HZ2.out.lt)
    refine (ih sb a len cap zs k1 _ HS2.out (by omega)).mono ?_
    rintro e w3 ⟨t, vt, k2, rfl, hkp, hwt, hk2, hl2, hs, hm⟩
    have HS3 := hid hs
    have HM3 := hid (HM2.out.trans hm)
    have HZ3 := hid (show Row w3 w.heap.size 28 #[.int .i64 0, .int .i64 0, .string ⟨#[]⟩, .slice none 0 0] from (hm.block _ HZ2.out.lt (by have := HSb.out; omega)).trans HZ2.out)
    obtain ⟨st, ct, rfl⟩ := hkp.slice
    obtain ⟨t0, t1, t2, lt, hp⟩ := Pt.of t
    have HPt := hid hp
    rw [hp.val]
    rw [hp.l] at hkp ⊢
    have HKt3 := hid hkp
    have HWt := hid hwt
    clear hs hm hkp hp hwt
    go_wp2_with fail
    have HNt := hid (fun (wx : World) => (show Calls Tryd.prog 56 #[.agg #[.int .i64 t0, .int .i64 t1, .string t2, .slice st lt ct]] wx (MadePost (notT t) [.slice st lt ct] wx) from HPt.out.val (.slice st lt ct) ▸ not_c t (.slice st lt ct) wx))
    refine (HNt.out _).mono ?_
    rintro e w4 ⟨sN, cN, rfl, hrow, hb⟩
    rw [show tmVal (notT t) (.slice sN (notT t).kids.length cN) = .agg #[.int .i64 3, .int .i64 0, .string ⟨#[]⟩, .slice sN 1 cN] from rfl]
    have HRow := hid (show w4.ownsRow w3.heap.size 28 4 (.slice sN 1 cN) 1 (tCells [t] [.slice st lt ct]) from hrow)
    have HLb := hid (show w.heap.size < w3.heap.size from HZ3.out.lt)
    have HM4 := hid (HM3.out.below' hb)
    have HZ4 := hid (HZ3.out.on hb)
    have HS4 := hid (HS3.out.below' hb)
    have HKt4 := hid (HKt3.out.on hb)
    clear hb hrow
    have r0 := HZ4.out.cell 0
    have r1 := HZ4.out.cell 1
    have r2 := HZ4.out.cell 2
    have r3 := HZ4.out.cell 3
    simp at r0 r1 r2 r3
    have hfr := HZ4.out.free
    go_wp2_with fail
    clear r0 r1 r2 r3 hfr
    refine bodyPost_ret (v := .agg #[.int .i64 3, .int .i64 0, .string ⟨#[]⟩, .slice sN 1 cN])
      (results_cell_row Tryd.results49 _ _ w.heap.size 28 #[.int .i64 3, .int .i64 0, .string ⟨#[]⟩, .slice sN 1 cN] (0, 0) _ rfl (four_row HZ4.out (.int .i64 3) (.int .i64 0) (.string ⟨#[]⟩) (.slice sN 1 cN)) Tryd.underlying28 rfl size_term) rfl ?_
    exact drt_end (t := notT t) HSb.out HS4.out HM4.out ((kp_not HRow.out (fun b hb => by have := HLb.out; omega) (HKt4.out.weak (fun b _ hb => by have := HLtHKt.out; omega))).mono (Nat.le_succ _)) (by rw [notT_wide]; have := HWt.out; omega) (by omega) (by omega) rfl
  by_cases e2 : v9 = 1
  · subst e2
    go_wp2_with fail
    refine (pick_c 2 sb a len cap zs k1 _ HS2.out (by omega) (by omega)).mono ?_
    rintro e w3 ⟨v2, k2, rfl, ⟨v20, v21⟩, hk2, hl2, hs, hm⟩
    have HS3 := hid hs
    have HM3 := hid (HM2.out.trans hm)
    have HZ3 := hid (show Row w3 w.heap.size 28 #[.int .i64 0, .int .i64 0, .string ⟨#[]⟩, .slice none 0 0] from (hm.block _ HZ2.out.lt (by have := HSb.out; omega)).trans HZ2.out)
    clear hs hm
    go_wp2_with fail
    have HLtHKt := hid (show w.heap.size < w3.heap.size from HZ3.out.lt)
    refine (near_c K n W x h1 h2 hK ih sb a len cap zs k2 _ HS3.out (by omega)).mono ?_
    rintro e w4 ⟨t, vt, k3, rfl, hkp, hwt, hk3, hl3, hs, hm⟩
    have HS4 := hid hs
    have HM4 := hid (HM3.out.trans hm)
    have HZ4 := hid (show Row w4 w.heap.size 28 #[.int .i64 0, .int .i64 0, .string ⟨#[]⟩, .slice none 0 0] from (hm.block _ HZ3.out.lt (by have := HSb.out; omega)).trans HZ3.out)
    obtain ⟨st, ct, rfl⟩ := hkp.slice
    obtain ⟨t0, t1, t2, lt, hp⟩ := Pt.of t
    have HPt := hid hp
    rw [hp.val]
    rw [hp.l] at hkp ⊢
    have HKt4 := hid hkp
    have HWt := hid hwt
    clear hs hm hkp hp hwt
    have hn2 : IntKind.wrap .i64 (4 + v2) = 4 + v2 := IntWalk.i64_in _ (by omega)
    have r0 := HZ4.out.cell 0
    have r1 := HZ4.out.cell 1
    have r2 := HZ4.out.cell 2
    have r3 := HZ4.out.cell 3
    simp at r0 r1 r2 r3
    have hfr := HZ4.out.free
    have hlz := HZ4.out.lt
    go_wp2_with fail
    clear r0 r1 r2 r3 hfr
    refine bodyPost_ret (v := .agg #[.int .i64 (4 + v2), .int .i64 0, .string ⟨#[]⟩, .slice (some ⟨w4.heap.size, 0, none⟩) 1 1])
      (results_cell_row Tryd.results49 _ _ w.heap.size 28 #[.int .i64 (4 + v2), .int .i64 0, .string ⟨#[]⟩, .slice (some ⟨w4.heap.size, 0, none⟩) 1 1] (0, 0) _ rfl ((four_row HZ4.out (.int .i64 (4 + v2)) (.int .i64 0) (.string ⟨#[]⟩) (.slice (some ⟨w4.heap.size, 0, none⟩) 1 1)).alloc _) Tryd.underlying28 rfl size_term) rfl ?_
    exact drt_word (t := t) HSb.out HZ4.out.lt HS4.out HM4.out (HKt4.out.weak (fun b _ hb => by have := HLtHKt.out; omega)) (by have := HWt.out; omega) (by omega) (by omega) (by rw [tCells, tCell, tCells, HPt.out.k, HPt.out.n, HPt.out.s]; rfl) rfl
  have b1 : (v9 == 0) = false := by simpa using e1
  have b2 : (v9 == 1) = false := by simpa using e2
  clear e1 e2
  go_wp2_with fail
  clear b1 b2
  refine (operatorsM_c sb _ HS2.out.here).mono ?_
  rintro e w3 ⟨vo, rfl, hro, hb⟩
  have HRo := hid hro
  have HM3 := hid (HM2.out.below' hb)
  have HZ3 := hid (HZ2.out.on hb)
  have HS3 := hid (HS2.out.below' hb)
  clear hb hro
  obtain ⟨ao, co, rfl, _⟩ := HRo.out _ (Moved.refl _ _)
  go_wp2_with fail
  refine (one_c opsTexts _ sb a len cap zs k1 _ (by decide) (by decide) HRo.out HS3.out (by omega)).mono ?_
  rintro e w4 ⟨so, k2, rfl, hso, hk2, hl2, hs, hm⟩
  have HS4 := hid hs
  have HVso := hid (ops_small hso)
  have HM4 := hid (HM3.out.trans hm)
  have HZ4 := hid (show Row w4 w.heap.size 28 #[.int .i64 0, .int .i64 0, .string ⟨#[]⟩, .slice none 0 0] from (hm.block _ HZ3.out.lt (by have := HSb.out; omega)).trans HZ3.out)
  clear hs hm hso
  go_wp2_with fail
  have HLtHKt := hid (show w.heap.size < w4.heap.size from HZ4.out.lt)
  refine (ih sb a len cap zs k2 _ HS4.out (by omega)).mono ?_
  rintro e w5 ⟨t, vt, k3, rfl, hkp, hwt, hk3, hl3, hs, hm⟩
  have HS5 := hid hs
  have HM5 := hid (HM4.out.trans hm)
  have HZ5 := hid (show Row w5 w.heap.size 28 #[.int .i64 0, .int .i64 0, .string ⟨#[]⟩, .slice none 0 0] from (hm.block _ HZ4.out.lt (by have := HSb.out; omega)).trans HZ4.out)
  obtain ⟨st, ct, rfl⟩ := hkp.slice
  obtain ⟨t0, t1, t2, lt, hp⟩ := Pt.of t
  have HPt := hid hp
  rw [hp.val]
  rw [hp.l] at hkp ⊢
  have HKt5 := hid hkp
  have HWt := hid hwt
  clear hs hm hkp hp hwt
  go_wp2_with fail
  have HLtHKu := hid (show w.heap.size < w5.heap.size from HZ5.out.lt)
  refine (ih sb a len cap zs k3 _ HS5.out (by omega)).mono ?_
  rintro e w6 ⟨u, vu, k4, rfl, hkp, hwu, hk4, hl4, hs, hm⟩
  have HS6 := hid hs
  have HM6 := hid (HM5.out.trans hm)
  have HZ6 := hid (show Row w6 w.heap.size 28 #[.int .i64 0, .int .i64 0, .string ⟨#[]⟩, .slice none 0 0] from (hm.block _ HZ5.out.lt (by have := HSb.out; omega)).trans HZ5.out)
  have HKt6 := hid (HKt5.out.moved hm (by have := HM0.out.size; have := HSb.out; have := HLtHKt.out; omega))
  obtain ⟨su, cu, rfl⟩ := hkp.slice
  obtain ⟨u0, u1, u2, lu, hp⟩ := Pt.of u
  have HPu := hid hp
  rw [hp.val]
  rw [hp.l] at hkp ⊢
  have HKu6 := hid hkp
  have HWu := hid hwu
  clear hs hm hkp hp hwu
  go_wp2_with fail
  have HBn := hid (fun (wx : World) => (show Calls Tryd.prog 54 #[.string so, .agg #[.int .i64 t0, .int .i64 t1, .string t2, .slice st lt ct], .agg #[.int .i64 u0, .int .i64 u1, .string u2, .slice su lu cu]] wx (MadePost (binT (t) so (u)) [.slice st lt ct, .slice su lu cu] wx) from by
    have := bin_c so (t) (u) (.slice st lt ct) (.slice su lu cu) wx
    rw [HPt.out.val, HPu.out.val] at this
    exact this))
  refine (HBn.out _).mono ?_
  rintro e w7 ⟨sN, cN, rfl, hrow, hb⟩
  rw [show tmVal (binT (t) so (u)) (.slice sN (binT (t) so (u)).kids.length cN) = .agg #[.int .i64 2, .int .i64 0, .string so, .slice sN 2 cN] from rfl]
  have HRow := hid (show w7.ownsRow w6.heap.size 28 4 (.slice sN 2 cN) 2 (tCells [t, u] [.slice st lt ct, .slice su lu cu]) from hrow)
  have HLb := hid (show w.heap.size < w6.heap.size from HZ6.out.lt)
  have HM7 := hid (HM6.out.below' hb)
  have HZ7 := hid (HZ6.out.on hb)
  have HS7 := hid (HS6.out.below' hb)
  have HKt7 := hid (HKt6.out.on hb)
  have HKu7 := hid (HKu6.out.on hb)
  clear hb hrow
  have r0 := HZ7.out.cell 0
  have r1 := HZ7.out.cell 1
  have r2 := HZ7.out.cell 2
  have r3 := HZ7.out.cell 3
  simp at r0 r1 r2 r3
  have hfr := HZ7.out.free
  go_wp2_with fail
  clear r0 r1 r2 r3 hfr
  refine bodyPost_ret (v := .agg #[.int .i64 2, .int .i64 0, .string so, .slice sN 2 cN])
    (results_cell_row Tryd.results49 _ _ w.heap.size 28 #[.int .i64 2, .int .i64 0, .string so, .slice sN 2 cN] (0, 0) _ rfl (four_row HZ7.out (.int .i64 2) (.int .i64 0) (.string so) (.slice sN 2 cN)) Tryd.underlying28 rfl size_term) rfl ?_
  exact drt_end (t := binT (t) so (u)) HSb.out HS7.out HM7.out ((kp_bin HRow.out (fun b hb => by have := HLb.out; omega) (HKt7.out.weak (fun b _ hb => by have := HLtHKt.out; omega)) (HKu7.out.weak (fun b _ hb => by have := HLtHKu.out; omega))).mono (Nat.le_succ _)) (by rw [binT_wide]; have := HWt.out; have := HWu.out; have := HVso.out; omega) (by omega) (by omega) rfl
end Go.Proofs.YtffibmlgdacafaaDoor.Um
