/- The table of instructions: what the program's functions over it return (ends, has, takes, insForms, formOf). -/
import Derived.Test.YtgenojpdjplccaaDoorRows
import Derived.Test.YtgenojpdjplccaaDoorFormTab
import Derived.Test.YtgenojpdjplccaaDoorRun
import Derived.WalkKit
import Derived.Outline
import Derived.Handy
import Derived.BigQuiet
import Derived.Deep.QuietTactic
import Derived.Deep.LoopGhost
import Derived.WalkLawsBesides
import Derived.Laws.Rows
import Derived.Great.Walk
import Derived.Great.BuildSlice
import Derived.Deep.WholeRow
set_option linter.unusedSimpArgs false
set_option linter.unusedVariables false
namespace Go.Proofs.YtgenojpdjplccaaDoor.C2
open Go.RowKit Pl Ft

theorem rng_of (r : Int) : (r = 1 ∨ r = 2 ∨ r = 3 ∨ r = 4 ∨ r = 5 ∨ r = 6 ∨ r = 7 ∨ r = 8) ∨ ((r == 1) = false ∧ (r == 2) = false ∧ (r == 3) = false ∧ (r == 4) = false ∧ (r == 5) = false ∧ (r == 6) = false ∧ (r == 7) = false ∧ (r == 8) = false) := by
  simp; omega
theorem ends_c (r : Int) (w : World) :
    Calls Tryd.prog 128 #[.int .i64 r] w fun e w' => e = .returned (.tuple #[.int .i64 (lo r), .int .i64 (hi r)]) ∧ w = w' := by
  rcases rng_of r with (rfl | rfl | rfl | rfl | rfl | rfl | rfl | rfl) | ⟨h1, h2, h3, h4, h5, h6, h7, h8⟩
  case inr =>
    have H1 := hid h1; have H2 := hid h2; have H3 := hid h3; have H4 := hid h4; have H5 := hid h5; have H6 := hid h6; have H7 := hid h7; have H8 := hid h8
    go_enter Tryd.func128, Tryd.ntmps128
    go_wp2
    go_ret2
    have := H1.out; have := H2.out; have := H3.out; have := H4.out; have := H5.out; have := H6.out; have := H7.out; have := H8.out
    simp_all [lo, hi]
  all_goals
    go_enter Tryd.func128, Tryd.ntmps128
    go_wp2
    go_ret2
    exact ⟨rfl, rfl⟩
theorem has_c (r n : Int) (w : World) :
    Calls Tryd.prog 100 #[.int .i64 r, .int .i64 n] w fun e w' => e = .returned (.bool (inR r n)) ∧ w = w' := by
  cases h : decide (lo r ≤ n)
  all_goals
    go_enter Tryd.func100, Tryd.ntmps100
    go_wp2_with (go_at_call 128; refine (ends_c _ _).mono ?_; rintro e w' ⟨rfl, rfl⟩)
    go_ret
    exact ⟨bool_eq (by simp [inR, h]), rfl⟩
theorem tab_zsize : tabZero.size = tabCells.size := by kernel_rfl
theorem tab_one : tabCells.all (·.oneCell') = true := by kernel_rfl
end Go.Proofs.YtgenojpdjplccaaDoor.C2
