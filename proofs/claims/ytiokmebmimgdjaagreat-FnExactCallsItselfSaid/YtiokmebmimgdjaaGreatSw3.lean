/- The listing of the model. -/
import Derived.Test.YtiokmebmimgdjaaGreatSw2
import Derived.Test.YtiokmebmimgdjaaGreatC2o
import Derived.Test.YtiokmebmimgdjaaGreatC2u
import Derived.Test.YtiokmebmimgdjaaGreatIm4
set_option linter.unusedSimpArgs false
set_option linter.unusedVariables false
namespace Go.Proofs.YtiokmebmimgdjaaGreat.Sw
open Go.RowKit Pl Ft Mm In C2 Im

end Go.Proofs.YtiokmebmimgdjaaGreat.Sw
