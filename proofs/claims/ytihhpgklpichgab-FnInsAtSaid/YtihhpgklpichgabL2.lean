/- Chapter 2's exact laws of InsOk and InsLong: the walks. -/
import Derived.Test.YtihhpgklpichgabC2u
import Derived.Test.YtihhpgklpichgabC2e
set_option linter.unusedSimpArgs false
set_option linter.unusedVariables false
namespace Go.Proofs.Ytihhpgklpichgab.C2
open Go.RowKit Pl Ft Mm

theorem toIns_c (i : IIns) (w : World) : Calls Try.prog 131 #[i.val] w fun e w' => e = .returned i.val ∧ Below w.heap.size w w' := by
  obtain ⟨op, a, b, n⟩ := i
  unfold IIns.val
  simp only
  go_enter Try.func131, Try.ntmps131
  go_wp2
  refine bodyPost_ret (v := .agg #[.int .i64 op, .int .i64 a, .int .i64 b, .int .i64 n]) (by simp [results, Try.results131, go_sem]) rfl ⟨rfl, ?_⟩
  repeat' first | exact Below.refl _ _ | (refine Below.setCell ?_ (by simp; try omega) _) | (refine Below.alloc ?_ (by simp; try omega) _)
theorem insLong_c (i : IIns) (w : World) :
    Calls Try.prog 138 #[i.val] w fun e w' => e = .returned (.int .i64 (if validIns i = true then slong i else -1)) ∧ Below w.heap.size w w' := by
  cases hf : formOf i with
  | none =>
    have hv : validIns i = false := by rw [← some_valid, hf]; rfl
    rw [hv]
    exact insLong_none i hf w
  | some f =>
    have hv : validIns i = true := by rw [← some_valid, hf]; rfl
    rw [hv, if_pos rfl, ← long_eq hf]
    exact insLong_some i f hf w
end Go.Proofs.Ytihhpgklpichgab.C2
