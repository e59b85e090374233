/- Chapter 2's exact laws of InsOk and InsLong: the walks. -/
import Derived.Test.YtemfopbpknljgaaC2u
import Derived.Test.YtemfopbpknljgaaC2e
set_option linter.unusedSimpArgs false
set_option linter.unusedVariables false
namespace Go.Proofs.Ytemfopbpknljgaa.C2
open Go.RowKit Pl Ft Mm

theorem toIns_c (i : IIns) (w : World) : Calls Try.prog 24 #[i.val] w fun e w' => e = .returned i.val ∧ Below w.heap.size w w' := by
  obtain ⟨op, a, b, n⟩ := i
  unfold IIns.val
  simp only
  go_enter Try.func24, Try.ntmps24
  go_wp2
  refine bodyPost_ret (v := .agg #[.int .i64 op, .int .i64 a, .int .i64 b, .int .i64 n]) (by simp [results, Try.results24, go_sem]) rfl ⟨rfl, ?_⟩
  repeat' first | exact Below.refl _ _ | (refine Below.setCell ?_ (by simp; try omega) _) | (refine Below.alloc ?_ (by simp; try omega) _)
theorem insLong_c (i : IIns) (w : World) :
    Calls Try.prog 17 #[i.val] w fun e w' => e = .returned (.int .i64 (if validIns i = true then slong i else -1)) ∧ Below w.heap.size w w' := by
  cases hf : formOf i with
  | none =>
    have hv : validIns i = false := by rw [← some_valid, hf]; rfl
    rw [hv]
    exact insLong_none i hf w
  | some f =>
    have hv : validIns i = true := by rw [← some_valid, hf]; rfl
    rw [hv, if_pos rfl, ← long_eq hf]
    exact insLong_some i f hf w
theorem exactInsOk_w (i : IIns) (w : World) : Calls Try.prog 7 #[i.val] w fun e w' => e = .returned (.bool true) ∧ Below w.heap.size w w' := by
  obtain ⟨op, a, b, n⟩ := i
  unfold IIns.val
  simp only
  go_enter Try.func7, Try.ntmps7
  go_wp2_with fail
  refine (toIns_c ⟨op, a, b, n⟩ _).mono ?_
  rintro e w1 ⟨rfl, hb1⟩
  have hr1 := (Row.new w 39 #[.int .i64 op, .int .i64 a, .int .i64 b, .int .i64 n]).on hb1
  have hB1 := ((Below.refl _ _).alloc (Nat.le_refl _) _).trans (hb1.mono (by simp))
  clear hb1
  have HR1 := hid hr1
  have HB1 := hid hB1
  clear hr1 hB1
  unfold IIns.val
  simp only
  go_wp2_with fail
  refine (sInsOk_c ⟨op, a, b, n⟩ _).mono ?_
  rintro e w2 ⟨rfl, hb2⟩
  have HR2 := hid (HR1.out.on hb2)
  have HB2 := hid (HB1.out.trans (hb2.mono HB1.out.size))
  clear hb2
  have i0 := HR2.out.cell 0
  have i1 := HR2.out.cell 1
  have i2 := HR2.out.cell 2
  have i3 := HR2.out.cell 3
  simp at i0 i1 i2 i3
  go_wp2_with fail
  clear i0 i1 i2 i3
  refine (toIns_c ⟨op, a, b, n⟩ _).mono ?_
  rintro e w3 ⟨rfl, hb3⟩
  have HB3 := hid (HB2.out.trans (hb3.mono HB2.out.size))
  clear hb3
  unfold IIns.val
  simp only
  go_wp2_with fail
  refine (insOk_c ⟨op, a, b, n⟩ _).mono ?_
  rintro e w4 ⟨rfl, hb4⟩
  have HB4 := hid (HB3.out.trans (hb4.mono HB3.out.size))
  clear hb4
  go_wp2_with fail
  go_ret
  exact ⟨rfl, HB4.out⟩
theorem exactInsLong_w (i : IIns) (w : World) : Calls Try.prog 8 #[i.val] w fun e w' => e = .returned (.bool true) ∧ Below w.heap.size w w' := by
  obtain ⟨x, hx⟩ : ∃ x, (if validIns i = true then slong i else -1) = x := ⟨_, rfl⟩
  have HX := hid hx
  clear hx
  obtain ⟨op, a, b, n⟩ := i
  unfold IIns.val
  simp only
  go_enter Try.func8, Try.ntmps8
  go_wp2_with fail
  refine (toIns_c ⟨op, a, b, n⟩ _).mono ?_
  rintro e w1 ⟨rfl, hb1⟩
  have hr1 := (Row.new w 39 #[.int .i64 op, .int .i64 a, .int .i64 b, .int .i64 n]).on hb1
  have hB1 := ((Below.refl _ _).alloc (Nat.le_refl _) _).trans (hb1.mono (by simp))
  clear hb1
  have HR1 := hid hr1
  have HB1 := hid hB1
  clear hr1 hB1
  unfold IIns.val
  simp only
  go_wp2_with fail
  refine (sInsLong_c ⟨op, a, b, n⟩ _).mono ?_
  rw [HX.out]
  rintro e w2 ⟨rfl, hb2⟩
  have HR2 := hid (HR1.out.on hb2)
  have HB2 := hid (HB1.out.trans (hb2.mono HB1.out.size))
  clear hb2
  have i0 := HR2.out.cell 0
  have i1 := HR2.out.cell 1
  have i2 := HR2.out.cell 2
  have i3 := HR2.out.cell 3
  simp at i0 i1 i2 i3
  go_wp2_with fail
  clear i0 i1 i2 i3
  refine (toIns_c ⟨op, a, b, n⟩ _).mono ?_
  rintro e w3 ⟨rfl, hb3⟩
  have HB3 := hid (HB2.out.trans (hb3.mono HB2.out.size))
  clear hb3
  unfold IIns.val
  simp only
  go_wp2_with fail
  refine (insLong_c ⟨op, a, b, n⟩ _).mono ?_
  rw [HX.out]
  rintro e w4 ⟨rfl, hb4⟩
  have HB4 := hid (HB3.out.trans (hb4.mono HB3.out.size))
  clear hb4
  go_wp2_with fail
  go_ret
  exact ⟨rfl, HB4.out⟩
end Go.Proofs.Ytemfopbpknljgaa.C2
