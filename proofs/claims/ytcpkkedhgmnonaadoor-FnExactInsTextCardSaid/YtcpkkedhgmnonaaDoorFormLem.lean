/- Facts on the two tables of instructions: which row takes an instruction. No call is spoken of here. -/
import Derived.Test.YtcpkkedhgmnonaaDoorFormTab
set_option linter.unusedSimpArgs false
set_option linter.unusedVariables false
namespace Go.Proofs.YtcpkkedhgmnonaaDoor.Ft
open Go.RowKit Pl

def formOf (i : IIns) : Option IForm := tab.find? (takes · i)
def takesN (f : IForm) (i : IIns) : Bool := inR f.a i.a && (inR f.b i.b && inR f.n i.n)
theorem formOf_op (i : IIns) : formOf i = (tab.filter (fun f => i.op == f.op)).find? (takesN · i) := by
  rw [List.find?_filter]
  unfold formOf
  congr 1
  funext f
  simp only [takes, takesN]
  cases h : i.op == f.op <;> simp_all
theorem op31 {op : Int} (h0 : 0 ≤ op) (h1 : op ≤ 30) : op = 0 ∨ op = 1 ∨ op = 2 ∨ op = 3 ∨ op = 4 ∨ op = 5 ∨ op = 6 ∨ op = 7 ∨ op = 8 ∨ op = 9 ∨ op = 10 ∨ op = 11 ∨ op = 12 ∨ op = 13 ∨ op = 14 ∨ op = 15 ∨ op = 16 ∨ op = 17 ∨ op = 18 ∨ op = 19 ∨ op = 20 ∨ op = 21 ∨ op = 22 ∨ op = 23 ∨ op = 24 ∨ op = 25 ∨ op = 26 ∨ op = 27 ∨ op = 28 ∨ op = 29 ∨ op = 30 := by omega
theorem tab_ops : ∀ f ∈ tab, 0 ≤ f.op ∧ f.op ≤ 30 := by
  intro f hf
  have : tab.all (fun f => decide (0 ≤ f.op ∧ f.op ≤ 30)) = true := by decide +kernel
  simpa using (List.all_eq_true.1 this) f hf
theorem formOf_mem {i : IIns} {f : IForm} (h : formOf i = some f) : f ∈ tab ∧ takes f i = true := ⟨List.mem_of_find?_eq_some h, by simpa using List.find?_some h⟩
set_option maxHeartbeats 1000000 in
theorem some_valid (i : IIns) : (formOf i).isSome = validIns i := by
  obtain ⟨op, a, b, n⟩ := i
  by_cases h : 0 ≤ op ∧ op ≤ 30
  · obtain ⟨h0, h1⟩ := h
    rw [formOf_op]
    rcases op31 h0 h1 with rfl | rfl | rfl | rfl | rfl | rfl | rfl | rfl | rfl | rfl | rfl | rfl | rfl | rfl | rfl | rfl | rfl | rfl | rfl | rfl | rfl | rfl | rfl | rfl | rfl | rfl | rfl | rfl | rfl | rfl | rfl
    all_goals
      clear h0 h1
      rcases (by omega : a = 0 ∨ a = 1 ∨ (a ≠ 0 ∧ a ≠ 1)) with rfl | rfl | ⟨a0, a1⟩ <;>
      simp [tab, List.filter, List.find?, takesN, inR, lo, hi, validIns, validAt, inRange, stab] <;>
      (first | (rw [Bool.eq_iff_iff]; (repeat' split) <;> simp <;> omega) | (split <;> simp_all; done) | (split <;> (try split) <;> simp_all <;> omega))
  · have hv : validIns ⟨op, a, b, n⟩ = false := by
      have : inRange op 0 30 = false := by simp only [inRange]; simp; omega
      simp [validIns, this]
    rw [hv]
    cases hf : formOf ⟨op, a, b, n⟩ with
    | none => rfl
    | some f =>
      obtain ⟨hm, ht⟩ := formOf_mem hf
      have h2 := tab_ops f hm
      have h3 : op = f.op := by
        simp only [takes, Bool.and_eq_true, beq_iff_eq] at ht
        exact ht.1
      omega
end Go.Proofs.YtcpkkedhgmnonaaDoor.Ft
