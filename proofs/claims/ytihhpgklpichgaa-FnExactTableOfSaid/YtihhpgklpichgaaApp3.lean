/- withBytes and withText of the program: what they return, and that they write the list's own block alone. -/
import Derived.Test.YtihhpgklpichgaaIm8
import Derived.Test.YtihhpgklpichgaaApp
set_option linter.unusedSimpArgs false
set_option linter.unusedVariables false
namespace Go.Proofs.Ytihhpgklpichgaa.Im
open Go.RowKit Pl Ft Mm In C2

theorem bytesOf_snoc (xs : List Int) (x : Int) (k : Nat) : xs ++ bytesOf x k ++ [dv x k % 256] = xs ++ bytesOf x (k + 1) := by rw [bytesOf_succ, List.append_assoc]
theorem text_snoc (xs : List Int) (s : ByteArray) (k : Nat) (h : k < s.size) : xs ++ (textInts s).take k ++ [(s[k].toNat : Int)] = xs ++ (textInts s).take (k + 1) := by rw [text_succ s k h, List.append_assoc]
end Go.Proofs.Ytihhpgklpichgaa.Im
