/- The tails' methods, longWith, InsLong: what they return. -/
import Derived.Test.YtlgnakhfkpjioaaDoorC2d
set_option linter.unusedSimpArgs false
set_option linter.unusedVariables false
namespace Go.Proofs.YtlgnakhfkpjioaaDoor.C2
open Go.RowKit Pl Ft Mm

end Go.Proofs.YtlgnakhfkpjioaaDoor.C2
