/- NameOf, by the program and by the model. -/
import Derived.Test.YtgenojpdjplccaaDoorNo
import Derived.Laws.Closers25b
set_option linter.unusedSimpArgs false
set_option linter.unusedVariables false
namespace Go.Proofs.YtgenojpdjplccaaDoor.Im
open Go.RowKit Pl Ft Mm In C2

def dec (x : Int) : ByteArray := ⟨(Lib.decDigits x.toNat).toArray⟩
/-- The name of a place. -/
def nameOf (m : Img) (x : Int) : ByteArray :=
  if imageOk m && (decide (0 ≤ x) && decide (x < m.code.length)) then
    match found m.names x with
    | some n => n.text
    | none => ⟨#[102]⟩ ++ dec x
  else ⟨#[]⟩
def textAt (l : List Nm) (x : Int) : ByteArray := match found l x with | some n => n.text | none => ⟨#[]⟩
theorem dec_size {x : Int} (h0 : 0 ≤ x) : (dec x).size ≤ x.toNat + 1 := digits_len x.toNat
theorem itoa_dec {x : Int} (h0 : 0 ≤ x) : (⟨(Lib.itoa x).toArray⟩ : ByteArray) = dec x := by
  unfold dec Lib.itoa
  rw [if_neg (by omega)]
abbrev Tab (w : World) : Prop := Lib.TabIs Tryd.prog w "internal/strconv.uint64pow10" .u64 Lib.pow10Tab
theorem Tab.on {w w' : World} (h : Tab w) (hb : Below w.heap.size w w') : Tab w' := (Lib.tabBelow_of_tabIs h).on hb |>.here
end Go.Proofs.YtgenojpdjplccaaDoor.Im
