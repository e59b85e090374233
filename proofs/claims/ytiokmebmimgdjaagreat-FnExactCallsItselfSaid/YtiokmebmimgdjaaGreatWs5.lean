/- Sound of the model. -/
import Derived.Test.YtiokmebmimgdjaaGreatWs3
import Derived.Test.YtiokmebmimgdjaaGreatWy6
set_option linter.unusedSimpArgs false
set_option linter.unusedVariables false
namespace Go.Proofs.YtiokmebmimgdjaaGreat.Wk
open Go.RowKit Pl Ft Mm In C2 Im Sw

theorem lostG_gm (code S : List Int) : lostG code (Gm code true) S = lostG code (Gw code) S := by
  unfold lostG
  apply pdec_iff
  constructor
  · rintro ⟨p, h1, h2⟩
    exact ⟨p, (Rc.congr (fun p q => gm_gw)).1 h1, h2⟩
  · rintro ⟨p, h1, h2⟩
    exact ⟨p, (Rc.congr (fun p q => gm_gw)).2 h1, h2⟩
end Go.Proofs.YtiokmebmimgdjaaGreat.Wk
