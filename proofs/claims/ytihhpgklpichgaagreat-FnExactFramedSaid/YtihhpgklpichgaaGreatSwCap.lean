/- A row of one's own is no longer than its room. -/
import Derived.Test.YtihhpgklpichgaaGreatImg
set_option linter.unusedSimpArgs false
set_option linter.unusedVariables false
namespace Go.Proofs.YtihhpgklpichgaaGreat.Sw
open Go.RowKit Pl Ft Mm In C2 Im
theorem own_cap3 {w : World} {base : Nat} {e : TypeId} {size : Nat} {v : Value} {n : Nat} {xs : List Value} (h : w.ownsRow base e size v n xs) : ∀ a k c, v = .slice a k c → k ≤ c := by
  intro a k c hv
  have := own_cap h
  rw [hv] at this
  exact this.of
end Go.Proofs.YtihhpgklpichgaaGreat.Sw
