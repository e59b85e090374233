/- What chapter 1's functions, the program's and the model's, return: one theorem a function, for every input · What AluDo, FlagsOf and CondHolds, the program's and the model's, return: one theorem a function, for every input · What FlagsOf and CondHolds, the program's and the model's, return: one theorem a function, for every input. -/
import Derived.Test.YtihhpgklpichgaaGreatRows
import Derived.Test.YtihhpgklpichgaaGreatPlain
import Derived.WalkKit
import Derived.Outline
import Derived.Handy
import Derived.Laws.EntriesVeiled
set_option linter.unusedSimpArgs false
set_option linter.unusedVariables false
namespace Go.Proofs.YtihhpgklpichgaaGreat.C1
open Go.RowKit Pl

theorem inRange_c (n l h : Int) (w : World) : Calls Tryz.prog 83 #[.int .i64 n, .int .i64 l, .int .i64 h] w fun e w' => e = .returned (.bool (decide (l ≤ n ∧ n ≤ h))) ∧ w = w' := by
  by_cases h1 : l ≤ n
  all_goals by_cases h2 : n ≤ h
  all_goals
    go_enter Tryz.func83, Tryz.ntmps83
    go_wp2
    go_ret
    exact ⟨by simp [*], rfl⟩
end Go.Proofs.YtihhpgklpichgaaGreat.C1
namespace Go.Proofs.YtihhpgklpichgaaGreat.C1
open Go.RowKit Pl

theorem ops_of {op : Int} (h0 : 0 ≤ op) (h1 : op ≤ 5) : op = 0 ∨ op = 1 ∨ op = 2 ∨ op = 3 ∨ op = 4 ∨ op = 5 := by omega
theorem mul_bd {a b : Int} (ha : 0 ≤ a) (ha' : a ≤ 65535) (hb : 0 ≤ b) (hb' : b ≤ 65535) : 0 ≤ a * b ∧ a * b ≤ 4294836225 := by
  refine ⟨Int.mul_nonneg ha hb, ?_⟩
  have := Int.mul_le_mul ha' hb' hb (by omega)
  omega
end Go.Proofs.YtihhpgklpichgaaGreat.C1
namespace Go.Proofs.YtihhpgklpichgaaGreat.C1
open Go.RowKit Pl

/-- The flags of two numbers, as a value. -/
def fEq (a b : Int) : Bool := isW a && isW b && a == b
def fLess (a b : Int) : Bool := isW a && isW b && decide (sg a < sg b)
def fLow (a b : Int) : Bool := isW a && isW b && decide (a < b)
theorem agg3_eq {a b c a' b' c' : Bool} (h1 : a = a') (h2 : b = b') (h3 : c = c') : Ending.returned (.agg #[.bool a, .bool b, .bool c]) = Ending.returned (.agg #[.bool a', .bool b', .bool c']) := by rw [h1, h2, h3]
def hol (c : Int) (x y z : Bool) : Bool := if c = 0 then x else if c = 1 then !x else if c = 2 then y else if c = 3 then !y else if c = 4 then z else if c = 5 then !z else false
end Go.Proofs.YtihhpgklpichgaaGreat.C1
