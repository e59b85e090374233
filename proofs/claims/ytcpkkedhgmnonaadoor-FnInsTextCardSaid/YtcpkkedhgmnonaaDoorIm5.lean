/- Whether an image is one, by the model: validImage, ImageOk. -/
import Derived.Test.YtcpkkedhgmnonaaDoorIm4
set_option linter.unusedSimpArgs false
set_option linter.unusedVariables false
namespace Go.Proofs.YtcpkkedhgmnonaaDoor.Im
open Go.RowKit Pl Ft Mm In C2

theorem imageOk_eq (m : Img) : imageOk m = (isCode m.code && (inRange m.entry 0 ((m.code.length : Int) - 1) && (inRange m.room 0 64 && (decide ((m.data.length : Int) ≤ m.room) && (m.data.all isByte && namesOk m.names m.code.length))))) := by
  unfold imageOk codeOk memOk
  rw [inRange_place]
  have e : inRange m.room 0 64 = (decide (0 ≤ m.room) && decide (m.room ≤ 64)) := by simp [inRange]
  rw [e]
  by_cases h : 0 < m.code.length
  · rw [decide_eq_true h]
    simp only [Bool.true_and, Bool.and_assoc]
  · have h0 : m.code.length = 0 := by omega
    rw [decide_eq_false h, h0]
    have : (decide (0 ≤ m.entry) && decide (m.entry < ((0 : Nat) : Int))) = false := by
      rw [Bool.and_eq_false_iff, decide_eq_false_iff_not, decide_eq_false_iff_not]
      omega
    rw [this]
    simp
end Go.Proofs.YtcpkkedhgmnonaaDoor.Im
