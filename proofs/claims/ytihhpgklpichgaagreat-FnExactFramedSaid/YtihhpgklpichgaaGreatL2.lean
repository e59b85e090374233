/- Chapter 2's exact laws of InsOk and InsLong: the walks. -/
import Derived.Test.YtihhpgklpichgaaGreatC2u
import Derived.Test.YtihhpgklpichgaaGreatC2e
set_option linter.unusedSimpArgs false
set_option linter.unusedVariables false
namespace Go.Proofs.YtihhpgklpichgaaGreat.C2
open Go.RowKit Pl Ft Mm

theorem insLong_c (i : IIns) (w : World) :
    Calls Tryz.prog 150 #[i.val] w fun e w' => e = .returned (.int .i64 (if validIns i = true then slong i else -1)) ∧ Below w.heap.size w w' := by
  cases hf : formOf i with
  | none =>
    have hv : validIns i = false := by rw [← some_valid, hf]; rfl
    rw [hv]
    exact insLong_none i hf w
  | some f =>
    have hv : validIns i = true := by rw [← some_valid, hf]; rfl
    rw [hv, if_pos rfl, ← long_eq hf]
    exact insLong_some i f hf w
end Go.Proofs.YtihhpgklpichgaaGreat.C2
