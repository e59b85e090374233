/- The laws' own helpers over variables with words: szVarS, toVarS, eqVarS. -/
import Derived.Test.YtffibmlgdacafaaDoorBase
set_option linter.unusedSimpArgs false
set_option linter.unusedVariables false
namespace Go.Proofs.YtffibmlgdacafaaDoor.Vr
open Go.RowKit Pl Ft Mm In C2 Im

theorem info_var : (Tryd.prog.info? 61).map (fun i => (i.zero, i.size, i.bytes)) = some (some (.agg #[.string ⟨#[]⟩, .int .i64 0]), 2, 24) := by kernel_rfl
end Go.Proofs.YtffibmlgdacafaaDoor.Vr
