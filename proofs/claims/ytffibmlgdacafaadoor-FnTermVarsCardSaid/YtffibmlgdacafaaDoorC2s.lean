/- The model's table of instructions (forms) and validIns: what they return. -/
import Derived.Test.YtffibmlgdacafaaDoorRows
import Derived.Test.YtffibmlgdacafaaDoorBase
import Derived.WalkKit
import Derived.Outline
import Derived.Handy
import Derived.BigQuiet
import Derived.Deep.QuietTactic
import Derived.Deep.LoopGhost
import Derived.WalkLawsBesides
import Derived.Laws.Rows
import Derived.Laws.OwnMore
import Derived.OwnWalk
import Derived.Great.Walk
import Derived.Great.BuildSlice
set_option linter.unusedSimpArgs false
set_option linter.unusedVariables false
namespace Go.Proofs.YtffibmlgdacafaaDoor.C2
open Go.RowKit Pl Ft Mm

def twos (k : Nat) : List Value := (List.range k).flatMap fun j => (stwo j).cells
theorem twos_succ (k : Nat) : twos (k + 1) = twos k ++ (stwo k).cells := by simp [twos, List.range_succ]
theorem sform_one (f : SForm) : ∀ u ∈ f.cells, u.oneCell' = true := by
  intro u hu
  simp only [SForm.cells, List.mem_cons, List.not_mem_nil, or_false] at hu
  rcases hu with rfl | rfl | rfl | rfl | rfl | rfl | rfl <;> rfl
theorem sforms_one (l : List SForm) : ∀ u ∈ l.flatMap SForm.cells, u.oneCell' = true := by
  intro u hu
  obtain ⟨f, _, h⟩ := List.mem_flatMap.1 hu
  exact sform_one f u h
theorem twos_one (k : Nat) : ∀ u ∈ twos k, u.oneCell' = true := by
  intro u hu
  obtain ⟨j, _, h⟩ := List.mem_flatMap.1 hu
  exact sform_one _ u h
end Go.Proofs.YtffibmlgdacafaaDoor.C2
