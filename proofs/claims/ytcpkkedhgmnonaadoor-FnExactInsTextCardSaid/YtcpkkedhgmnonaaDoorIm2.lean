/- Whether an image is one, by the program: hasPlace, codeOk, memoryOk, namesOk, ImageOk. -/
import Derived.Test.YtcpkkedhgmnonaaDoorIm1
import Derived.Test.YtcpkkedhgmnonaaDoorNm
set_option linter.unusedSimpArgs false
set_option linter.unusedVariables false
namespace Go.Proofs.YtcpkkedhgmnonaaDoor.Im
open Go.RowKit Pl Ft Mm In C2

end Go.Proofs.YtcpkkedhgmnonaaDoor.Im
