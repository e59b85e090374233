/- InsAt of the program. -/
import Derived.Test.YtihhpgklpichgaaGreatC2m
set_option linter.unusedSimpArgs false
set_option linter.unusedVariables false
namespace Go.Proofs.YtihhpgklpichgaaGreat.C2
open Go.RowKit Pl Ft Mm In

theorem insAt_no {code : List Int} {at_ : Int} (h : (isCode code && (decide (0 ≤ at_) && decide (at_ < code.length))) = false) : insAt code at_ = none := by
  unfold insAt
  rw [h, if_neg (by simp)]
theorem insAt_yes {code : List Int} {at_ : Int} (h : (isCode code && (decide (0 ≤ at_) && decide (at_ < code.length))) = true) : insAt code at_ = insIn code at_.toNat := by
  unfold insAt
  rw [if_pos h]
end Go.Proofs.YtihhpgklpichgaaGreat.C2
