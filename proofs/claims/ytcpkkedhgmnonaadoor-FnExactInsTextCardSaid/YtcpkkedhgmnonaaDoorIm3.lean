/- Whether an image is one, by the program: namesOk, ImageOk. -/
import Derived.Test.YtcpkkedhgmnonaaDoorIm2
set_option linter.unusedSimpArgs false
set_option linter.unusedVariables false
namespace Go.Proofs.YtcpkkedhgmnonaaDoor.Im
open Go.RowKit Pl Ft Mm In C2

def hasSame (l : List Nm) (s : ByteArray) : Bool := l.any fun m => m.text.toList == s.toList
def NoneTo (l : List Nm) (s : ByteArray) (k : Nat) : Prop := hasSame (l.take k) s = false
theorem NoneTo.succ {l : List Nm} {s : ByteArray} {k : Nat} (h : NoneTo l s k) (hk : k < l.length) (hc : ((l.getD k .none).text.toList == s.toList) = false) : NoneTo l s (k + 1) := by
  have e : l.getD k .none = l[k] := by simp [hk]
  rw [e] at hc
  unfold NoneTo hasSame at h ⊢
  rw [List.take_succ_eq_append_getElem hk, List.any_append, h]
  simpa using hc
theorem hasSame_at {l : List Nm} {s : ByteArray} {k : Nat} (hk : k < l.length) (hc : ((l.getD k .none).text.toList == s.toList) = true) : hasSame l s = true := by
  have e : l.getD k .none = l[k] := by simp [hk]
  rw [e] at hc
  exact List.any_eq_true.2 ⟨l[k], List.getElem_mem hk, hc⟩
def IdxPost (l : List Nm) (s : ByteArray) (w : World) (e : Ending) (w' : World) : Prop := ∃ x : Int, e = .returned (.int .i64 x) ∧ -1 ≤ x ∧ decide (0 ≤ x) = hasSame l s ∧ Below w.heap.size w w'
def lastAt (l : List Nm) (k : Nat) : Int := if k = 0 then -1 else (l.getD (k - 1) .none).at_
theorem asc_iff (l : List Nm) (k : Nat) (h0 : 0 ≤ (l.getD k .none).at_) : nmAsc l k = !decide ((l.getD k .none).at_ ≤ lastAt l k) := by
  unfold nmAsc lastAt
  by_cases hk : k = 0
  · subst hk
    have h1 : ¬ (l.getD 0 .none).at_ ≤ -1 := by omega
    rw [if_pos rfl, decide_eq_false h1]
    rfl
  · have h1 : (k == 0) = false := by simpa using hk
    rw [if_neg hk, h1, Bool.false_or]
    by_cases h2 : (l.getD (k - 1) .none).at_ < (l.getD k .none).at_
    · rw [decide_eq_true h2, decide_eq_false (by omega)]; rfl
    · rw [decide_eq_false h2, decide_eq_true (by omega)]; rfl
theorem nmNew_eq (l : List Nm) (k : Nat) : nmNew l k = !hasSame (l.take k) (l.getD k .none).text := by
  unfold nmNew hasSame
  rw [List.not_any_eq_all_not]
end Go.Proofs.YtcpkkedhgmnonaaDoor.Im
