/- The exact law of ImageOk: the walk. -/
import Derived.Test.YtihhpgklpichgaaGreatHarn
import Derived.Test.YtihhpgklpichgaaGreatIm4
set_option linter.unusedSimpArgs false
set_option linter.unusedVariables false
namespace Go.Proofs.YtihhpgklpichgaaGreat.Im
open Go.RowKit Pl Ft Mm In C2

theorem eqImage_own (m : Img) (vc vd vn vc' vd' vn' : Value) (w : World) {B B' : Nat} (ha : IOwn w B vc vd vn m) (hb : IOwn w B' vc' vd' vn' m) (hs : Sm m) :
    Calls Tryz.prog 18 #[imgVal vc vd vn m, imgVal vc' vd' vn' m] w fun e w' => e = .returned (.bool true) ∧ Below w.heap.size w w' := eqImage_c m vc vd vn vc' vd' vn' w ha.cells hb.cells hs
end Go.Proofs.YtihhpgklpichgaaGreat.Im
