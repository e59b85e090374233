/- Reading numbers: areBytes, isCode, numberIn, signedByte of the program: what they return. -/
import Derived.Test.YtcpkkedhgmnonaaDoorC2e
import Derived.Test.YtcpkkedhgmnonaaDoorInts
import Derived.IntWalk
set_option linter.unusedSimpArgs false
set_option linter.unusedVariables false
namespace Go.Proofs.YtcpkkedhgmnonaaDoor.C2
open Go.RowKit Pl Ft Mm In

def isByte (x : Int) : Bool := inR 7 x
def isCode (xs : List Int) : Bool := decide (xs.length ≤ 2000) && xs.all isByte
def sgn (x : Int) : Int := if inR 6 x = true then x else x - 256
/-- The number that bytes tell, the lowest one first. -/
def numIn : List Int → Int
  | [] => 0
  | x :: l => x + 256 * numIn l
theorem or_zero (x : Int) (h0 : 0 ≤ x) (h1 : x ≤ 255) : bits .or .i64 0 x = x := by
  obtain ⟨n, rfl⟩ := Int.eq_ofNat_of_zero_le h0
  have := or_nat 0 n (by omega) (by omega)
  simpa using this
theorem or_join (y x : Int) (y0 : 0 ≤ y) (y1 : y ≤ 255) (x0 : 0 ≤ x) (x1 : x ≤ 255) : bits .or .i64 (y * 256) x = y * 256 + x :=
  bits_join .i64 16 (by decide) wraps_i64 8 _ _ (by omega) (by omega) (by omega) (by omega) (by omega) (by omega)
end Go.Proofs.YtcpkkedhgmnonaaDoor.C2
