/- The listing of the model. -/
import Derived.Test.YtihhpgklpichgaaSw2
import Derived.Test.YtihhpgklpichgaaC2o
import Derived.Test.YtihhpgklpichgaaC2u
import Derived.Test.YtihhpgklpichgaaIm4
set_option linter.unusedSimpArgs false
set_option linter.unusedVariables false
namespace Go.Proofs.Ytihhpgklpichgaa.Sw
open Go.RowKit Pl Ft Mm In C2 Im

end Go.Proofs.Ytihhpgklpichgaa.Sw
