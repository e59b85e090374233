/- The listing of the model. -/
import Derived.Test.YtihhpgklpichgaaGreatSw2
import Derived.Test.YtihhpgklpichgaaGreatC2o
import Derived.Test.YtihhpgklpichgaaGreatC2u
import Derived.Test.YtihhpgklpichgaaGreatIm4
set_option linter.unusedSimpArgs false
set_option linter.unusedVariables false
namespace Go.Proofs.YtihhpgklpichgaaGreat.Sw
open Go.RowKit Pl Ft Mm In C2 Im

end Go.Proofs.YtihhpgklpichgaaGreat.Sw
