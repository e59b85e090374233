/- Where an instruction leads: bounds. No program is spoken of here. -/
import Derived.Test.YtiokmebmimgdjaaGreatTb
set_option linter.unusedSimpArgs false
set_option linter.unusedVariables false
namespace Go.Proofs.YtiokmebmimgdjaaGreat.Wk
open Go.RowKit Pl Ft Mm In C2 Im Sw

theorem lead_bd {i : IIns} (h : validIns i = true) (ho : i.op = 27 ∨ i.op = 28 ∨ i.op = 29) : 0 ≤ i.n ∧ i.n ≤ 1999 := by
  obtain ⟨op, a, b, n⟩ := i
  simp only at ho ⊢
  have key : ∀ k : Nat, (stab.getD k .none).low = 0 → (stab.getD k .none).high = 1999 → op = k → 0 ≤ n ∧ n ≤ 1999 := by
    intro k e2 e3 hk
    subst hk
    have hv : validAt (stab.getD k .none) ⟨(k : Int), a, b, n⟩ = true := by
      unfold validIns at h
      rw [Bool.and_eq_true] at h
      simpa using h.2
    unfold validAt at hv
    rw [e2, e3] at hv
    simp [inRange] at hv
    omega
  rcases ho with h1 | h1 | h1
  · exact key 27 rfl rfl h1
  · exact key 28 rfl rfl h1
  · exact key 29 rfl rfl h1
theorem badTab_no {code : List Int} {i : IIns} (h : i.op ≠ 30) : badTab code i = false := by unfold badTab; simp [h]
theorem tab_len {code : List Int} {i : IIns} (hb : i.b ≤ 8) : ((tabP code i).getD []).length ≤ 8 := by
  unfold tabP
  split
  · simp; omega
  · simp
theorem valid_b {i : IIns} (h : validIns i = true) (h30 : i.op = 30) : i.b ≤ 8 := (table_bd (op := i.op) (a := i.a) (b := i.b) (n := i.n) h h30).2.2.2
theorem succs_bd {code : List Int} (h : code.all isByte = true) {i : IIns} (hv : validIns i = true) {next : Int} (hx : 0 ≤ next ∧ next ≤ 100000) : ∀ q ∈ succs code i next, 0 ≤ q ∧ q ≤ 100000 := by
  intro q hq
  have hn := fun ho => lead_bd hv ho
  unfold succs at hq
  split at hq
  · cases hq
  split at hq
  · simp at hq; subst hq; have := hn (by omega); omega
  split at hq
  · simp at hq; rcases hq with rfl | rfl; (have := hn (by omega); omega); exact hx
  split at hq
  · simp at hq; rcases hq with rfl | rfl; exact hx; (have := hn (by omega); omega)
  split at hq
  · rw [List.mem_append] at hq
    rcases hq with hq | hq
    · unfold tabP at hq
      split at hq
      · simp only [Option.getD_some, List.mem_map, List.mem_range] at hq
        obtain ⟨k, hk, rfl⟩ := hq
        rename_i hfit
        have hb8 := table_bd (op := i.op) (a := i.a) (b := i.b) (n := i.n) hv (by assumption)
        have h1 := two_bd h (i.n.toNat + 2 * k) (by omega)
        omega
      · cases hq
    · simp at hq; subst hq; exact hx
  · simp at hq; subst hq; exact hx
end Go.Proofs.YtiokmebmimgdjaaGreat.Wk
