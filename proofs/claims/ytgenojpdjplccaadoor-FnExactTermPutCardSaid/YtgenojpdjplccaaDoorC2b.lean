/- formOf: which row of the table takes an instruction. -/
import Derived.Test.YtgenojpdjplccaaDoorC2a
import Derived.Test.YtgenojpdjplccaaDoorMem
import Derived.Test.YtgenojpdjplccaaDoorFormTab
set_option linter.unusedSimpArgs false
set_option linter.unusedVariables false
namespace Go.Proofs.YtgenojpdjplccaaDoor.C2
open Go.RowKit Pl Ft Mm

theorem find_no {α : Type} (p : α → Bool) (d : α) : ∀ (l : List α), (∀ j, j < l.length → p (l.getD j d) = false) → l.find? p = none
  | [], _ => rfl
  | x :: l, h => by
    have h0 : p x = false := by simpa using h 0 (by simp)
    rw [List.find?_cons, h0]
    exact find_no p d l fun j hj => by simpa using h (j + 1) (by simp; omega)
theorem find_at {α : Type} (p : α → Bool) (d : α) : ∀ (l : List α) (k : Nat), k < l.length → (∀ j, j < k → p (l.getD j d) = false) → p (l.getD k d) = true → l.find? p = some (l.getD k d)
  | [], k, hk, _, _ => by simp at hk
  | x :: l, 0, _, _, h => by
    have h0 : p x = true := by simpa using h
    rw [List.find?_cons, h0]
    rfl
  | x :: l, k + 1, hk, hn, h => by
    have h0 : p x = false := by simpa using hn 0 (by omega)
    rw [List.find?_cons, h0]
    have := find_at p d l k (by simp at hk; omega) (fun j hj => by simpa using hn (j + 1) (by omega)) (by simpa using h)
    simpa using this
/-- What formOf answers. -/
def formVal (i : IIns) : Value := .tuple #[((formOf i).getD .none).val, .bool (formOf i).isSome]
theorem tab_len : tab.length = 33 := by decide +kernel
end Go.Proofs.YtgenojpdjplccaaDoor.C2
