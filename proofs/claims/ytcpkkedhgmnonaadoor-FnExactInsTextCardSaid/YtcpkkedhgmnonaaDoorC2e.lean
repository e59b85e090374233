/- The tails' methods, longWith, InsLong: what they return. -/
import Derived.Test.YtcpkkedhgmnonaaDoorC2d
set_option linter.unusedSimpArgs false
set_option linter.unusedVariables false
namespace Go.Proofs.YtcpkkedhgmnonaaDoor.C2
open Go.RowKit Pl Ft Mm

end Go.Proofs.YtcpkkedhgmnonaaDoor.C2
