/- The bytes of an image: withText, sumOf of the program, checkOf of the model. -/
import Derived.Test.YtihhpgklpichgaaIm4
import Derived.Test.YtihhpgklpichgaaC2f
set_option linter.unusedSimpArgs false
set_option linter.unusedVariables false
namespace Go.Proofs.Ytihhpgklpichgaa.Im
open Go.RowKit Pl Ft Mm In C2

theorem text_succ (s : ByteArray) (k : Nat) (h : k < s.size) : (textInts s).take (k + 1) = (textInts s).take k ++ [(s[k].toNat : Int)] := by
  have hl : k < (textInts s).length := by rw [textInts_len]; exact h
  rw [List.take_succ_eq_append_getElem hl]
  have e : (textInts s)[k] = (s[k].toNat : Int) := by
    have := letters_get s k h
    simp only [textInts, List.getElem_map]
    rw [this]
  rw [e]
end Go.Proofs.Ytihhpgklpichgaa.Im
