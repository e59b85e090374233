/- What AluDo, FlagsOf and CondHolds, the program's and the model's, return: one theorem a function, for every input. -/
import Derived.Test.YtcpkkedhgmnonaaDoorC1
import Derived.Laws.EntriesVeiled
set_option linter.unusedSimpArgs false
set_option linter.unusedVariables false
namespace Go.Proofs.YtcpkkedhgmnonaaDoor.C1
open Go.RowKit Pl

theorem ops_of {op : Int} (h0 : 0 ≤ op) (h1 : op ≤ 5) : op = 0 ∨ op = 1 ∨ op = 2 ∨ op = 3 ∨ op = 4 ∨ op = 5 := by omega
theorem mul_bd {a b : Int} (ha : 0 ≤ a) (ha' : a ≤ 65535) (hb : 0 ≤ b) (hb' : b ≤ 65535) : 0 ≤ a * b ∧ a * b ≤ 4294836225 := by
  refine ⟨Int.mul_nonneg ha hb, ?_⟩
  have := Int.mul_le_mul ha' hb' hb (by omega)
  omega
end Go.Proofs.YtcpkkedhgmnonaaDoor.C1
