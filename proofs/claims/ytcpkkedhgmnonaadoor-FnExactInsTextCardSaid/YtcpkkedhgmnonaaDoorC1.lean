/- What chapter 1's functions, the program's and the model's, return: one theorem a function, for every input. -/
import Derived.Test.YtcpkkedhgmnonaaDoorRows
import Derived.Test.YtcpkkedhgmnonaaDoorPlain
import Derived.WalkKit
import Derived.Outline
import Derived.Handy
set_option linter.unusedSimpArgs false
set_option linter.unusedVariables false
namespace Go.Proofs.YtcpkkedhgmnonaaDoor.C1
open Go.RowKit Pl

theorem inRange_c (n l h : Int) (w : World) : Calls Tryd.prog 29 #[.int .i64 n, .int .i64 l, .int .i64 h] w fun e w' => e = .returned (.bool (decide (l ≤ n ∧ n ≤ h))) ∧ w = w' := by
  by_cases h1 : l ≤ n
  all_goals by_cases h2 : n ≤ h
  all_goals
    go_enter Tryd.func29, Tryd.ntmps29
    go_wp2
    go_ret
    exact ⟨by simp [*], rfl⟩
end Go.Proofs.YtcpkkedhgmnonaaDoor.C1
