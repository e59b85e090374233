/- ImageBytes of the program. -/
import Derived.Test.YtihhpgklpichgaaApp3
set_option linter.unusedSimpArgs false
set_option linter.unusedVariables false
namespace Go.Proofs.Ytihhpgklpichgaa.Im
open Go.RowKit Pl Ft Mm In C2

def bts (m : Img) : List Int := if imageOk m = true then imgBytes m else []
def BytesPost (m : Img) (w : World) (e : Ending) (w' : World) : Prop := ∃ v, e = .returned v ∧ w'.ownsRow w.heap.size 3 1 v (bts m).length (ints (bts m)) ∧ Below w.heap.size w w'
/-- The list so far. -/
structure Lst (B : Nat) (w : World) (xs : List Int) (v : Value) (wr : World) : Prop where
  own : wr.ownsRow B 3 1 v xs.length (ints xs)
  size : B ≤ wr.heap.size
  bel : Below B w wr
theorem head_names (m : Img) (k : Nat) (h : ImgBd m) : (imgFront m ++ namesBytes (m.names.take k)).length ≤ 200 := by
  have h1 := names_len (m.names.take k) (fun n hn => h.text8 n (List.mem_of_mem_take hn))
  have h2 := List.length_take_le k m.names
  have h3 : (m.names.take k).length ≤ m.names.length := by rw [List.length_take]; omega
  have h4 := h.n1
  rw [List.length_append, front_len]
  omega
theorem int_ne_name' : 3 ≠ 68 := by decide
end Go.Proofs.Ytihhpgklpichgaa.Im
