/- The tails' methods, longWith, InsLong: what they return. -/
import Derived.Test.YtgenojpdjplccaaDoorC2d
set_option linter.unusedSimpArgs false
set_option linter.unusedVariables false
namespace Go.Proofs.YtgenojpdjplccaaDoor.C2
open Go.RowKit Pl Ft Mm

end Go.Proofs.YtgenojpdjplccaaDoor.C2
