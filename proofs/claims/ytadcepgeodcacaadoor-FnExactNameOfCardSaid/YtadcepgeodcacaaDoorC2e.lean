/- The tails' methods, longWith, InsLong: what they return. -/
import Derived.Test.YtadcepgeodcacaaDoorC2d
set_option linter.unusedSimpArgs false
set_option linter.unusedVariables false
namespace Go.Proofs.YtadcepgeodcacaaDoor.C2
open Go.RowKit Pl Ft Mm

end Go.Proofs.YtadcepgeodcacaaDoor.C2
