/- The listing of the model. -/
import Derived.Test.YtiokmebmimgdjaaSw2
import Derived.Test.YtiokmebmimgdjaaC2o
import Derived.Test.YtiokmebmimgdjaaC2u
import Derived.Test.YtiokmebmimgdjaaIm4
set_option linter.unusedSimpArgs false
set_option linter.unusedVariables false
namespace Go.Proofs.Ytiokmebmimgdjaa.Sw
open Go.RowKit Pl Ft Mm In C2 Im

end Go.Proofs.Ytiokmebmimgdjaa.Sw
