/- The tails' methods, longWith, InsLong: what they return. -/
import Derived.Test.YtihhpgklpichgacDoorC2d
set_option linter.unusedSimpArgs false
set_option linter.unusedVariables false
namespace Go.Proofs.YtihhpgklpichgacDoor.C2
open Go.RowKit Pl Ft Mm

end Go.Proofs.YtihhpgklpichgacDoor.C2
