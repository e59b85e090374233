/- Chapter 2's exact laws of InsOk and InsLong: the walks. -/
import Derived.Test.YtjfjcppabbifhaaC2u
import Derived.Test.YtjfjcppabbifhaaC2e
set_option linter.unusedSimpArgs false
set_option linter.unusedVariables false
namespace Go.Proofs.Ytjfjcppabbifhaa.C2
open Go.RowKit Pl Ft Mm

end Go.Proofs.Ytjfjcppabbifhaa.C2
