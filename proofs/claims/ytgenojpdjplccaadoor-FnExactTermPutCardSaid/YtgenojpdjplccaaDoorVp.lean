/- How great a term is, plainly. -/
import Derived.Test.YtgenojpdjplccaaDoorUp
set_option linter.unusedSimpArgs false
set_option linter.unusedVariables false
namespace Go.Proofs.YtgenojpdjplccaaDoor.Um
open Go.RowKit Pl Ft Mm In C2 Im

theorem name_len {s : ByteArray} (h : isName s = true) : s.size ≤ 8 := by
  unfold isName at h
  simp at h
  omega
theorem op_len {s : ByteArray} (h : isOp s = true) : s.size ≤ 8 := by
  unfold isOp opTexts at h
  have e : s.size = s.toList.length := by rw [ByteArray.toList_eq, Array.length_toList]; rfl
  simp at h
  rcases h with h | h | h | h | h | h | h | h | h <;> rw [e, h] <;> simp
theorem none_len {s : ByteArray} (h : noText s = true) : s.size ≤ 8 := by
  unfold noText at h
  have e : s.size = s.toList.length := by rw [ByteArray.toList_eq, Array.length_toList]; rfl
  have h2 : s.toList = [] := by simpa using h
  rw [e, h2]; simp
theorem form_text {t : Tm} (hf : t.form = true) : t.text.size ≤ 8 := by
  unfold Tm.form formOf at hf
  by_cases h0 : t.kind = 0
  · rw [if_pos h0] at hf
    simp only [Bool.and_eq_true] at hf
    exact none_len hf.2.1
  rw [if_neg h0] at hf
  by_cases h1 : t.kind = 1
  · rw [if_pos h1] at hf
    simp only [Bool.and_eq_true, freeName] at hf
    exact name_len hf.2.1.2
  rw [if_neg h1] at hf
  by_cases h2 : t.kind = 2
  · rw [if_pos h2] at hf
    simp only [Bool.and_eq_true] at hf
    exact op_len hf.2.1
  rw [if_neg h2] at hf
  by_cases h3 : t.kind = 3 ∨ t.kind = 4 ∨ t.kind = 5
  · rw [if_pos h3] at hf
    simp only [Bool.and_eq_true] at hf
    exact none_len hf.2.1
  · rw [if_neg h3] at hf
    cases hf
theorem shape_wide : ∀ (h : Nat) (t : Tm), shape h t = true → t.wide ≤ 20 * t.size
  | 0, _, hs => by simp [shape] at hs
  | h + 1, t, hs => by
    obtain ⟨hf, hk⟩ := shape_at hs
    have key : ∀ ks : List Tm, (∀ j, j < ks.length → shape h (ks.getD j tz) = true) → wides ks ≤ 20 * sizes ks := by
      intro ks
      induction ks with
      | nil => intro _; simp [wides_nil]
      | cons k ks ih =>
        intro hks
        have h1 := shape_wide h k (by simpa using hks 0 (by simp))
        have h2 := ih (fun j hj => by simpa using hks (j + 1) (by simpa using hj))
        rw [wides_cons, sizes_cons]
        omega
    have h1 := key t.kids hk
    have h2 := form_kids hf
    have h3 := form_text hf
    rw [wide_eq, size_eq]
    omega
theorem ok_wide {t : Tm} (h : termOk t = true) : t.wide ≤ 1200 := by
  obtain ⟨h1, h2⟩ := termOk_bd h
  have := shape_wide 14 t h1
  omega
end Go.Proofs.YtgenojpdjplccaaDoor.Um
