/- What FlagsOf and CondHolds, the program's and the model's, return: one theorem a function, for every input. -/
import Derived.Test.YtcpkkedhgmnonaaDoorC1b
set_option linter.unusedSimpArgs false
set_option linter.unusedVariables false
namespace Go.Proofs.YtcpkkedhgmnonaaDoor.C1
open Go.RowKit Pl

/-- The flags of two numbers, as a value. -/
def fEq (a b : Int) : Bool := isW a && isW b && a == b
def fLess (a b : Int) : Bool := isW a && isW b && decide (sg a < sg b)
def fLow (a b : Int) : Bool := isW a && isW b && decide (a < b)
theorem agg3_eq {a b c a' b' c' : Bool} (h1 : a = a') (h2 : b = b') (h3 : c = c') : Ending.returned (.agg #[.bool a, .bool b, .bool c]) = Ending.returned (.agg #[.bool a', .bool b', .bool c']) := by rw [h1, h2, h3]
def hol (c : Int) (x y z : Bool) : Bool := if c = 0 then x else if c = 1 then !x else if c = 2 then y else if c = 3 then !y else if c = 4 then z else if c = 5 then !z else false
end Go.Proofs.YtcpkkedhgmnonaaDoor.C1
