/- The letters of what follows a first byte: the program's map of them, and its tails. -/
import Derived.Test.YtgenojpdjplccaaDoorC2b
import Derived.Test.YtgenojpdjplccaaDoorRun
import Derived.Carry
set_option linter.unusedSimpArgs false
set_option linter.unusedVariables false
namespace Go.Proofs.YtgenojpdjplccaaDoor.C2
open Go.RowKit Pl Ft Mm

theorem check_u8 (n : Int) (hw : (Lit.int .u8 n).wf = true) (w : World) (em : Bool) : (Instr.checkKey em 10000 5 (.int .u8 n)).run Tryd.prog w = .ok () w := by
  exact (Go.Maps.int_keyed Tryd.underlying5).check w em (Go.Maps.keyOf_int_mk Tryd.underlying5 hw)
theorem letter_of {c : Nat} (h : isLetter c = true) : c = 114 ∨ c = 98 ∨ c = 115 ∨ c = 119 ∨ c = 116 ∨ c = 110 := by
  simpa [isLetter, or_assoc] using h
theorem take_letters (s : ByteArray) (k : Nat) (h : k < s.size) : (letters s).take (k + 1) = (letters s).take k ++ [s[k].toNat] := by
  unfold letters
  rw [← List.map_take, ← List.map_take, List.take_succ_eq_append_getElem (by simpa using h), List.map_append]
  rfl
end Go.Proofs.YtgenojpdjplccaaDoor.C2
