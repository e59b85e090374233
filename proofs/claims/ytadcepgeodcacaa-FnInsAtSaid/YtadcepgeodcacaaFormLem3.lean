/- Facts on the two tables of instructions: InsPut of the program and of the model answer the same. No call is spoken of here. -/
import Derived.Test.YtadcepgeodcacaaFormLem2
set_option linter.unusedSimpArgs false
set_option linter.unusedVariables false
namespace Go.Proofs.Ytadcepgeodcacaa.Ft
open Go.RowKit Pl

theorem inR8 (x : Int) : inR 8 x = inRange x 0 1999 := by simp [inR, inRange, lo, hi]
set_option maxHeartbeats 1000000 in
theorem sput_some {i : IIns} {f : IForm} (h : formOf i = some f) (at_ : Int) (hin : inRange at_ 0 1999 = true) : sput i at_ = insPut i at_ := by
  have hbd := form_bounds h
  have hpi : insPut i at_ = (if (letters f.follows).all (fun c => letterFit c i (at_ + longOf (letters f.follows))) = true then some (firstByte f i :: putList (letters f.follows) i (at_ + longOf (letters f.follows))) else none) := by
    simp only [insPut, h]
    rw [inR8, if_pos hin]
  rw [hpi]
  obtain ⟨hm, ht⟩ := formOf_mem h
  have ht := takes_iff.1 ht
  clear hpi h hin
  obtain ⟨op, a, b, n⟩ := i
  have n0 := hbd.n0
  have n1 := hbd.n1
  have key : f ∈ tab → op = f.op → lo f.a ≤ a → a ≤ hi f.a → lo f.n ≤ n → n ≤ hi f.n → sput ⟨op, a, b, n⟩ at_ = (if (letters f.follows).all (fun c => letterFit c ⟨op, a, b, n⟩ (at_ + longOf (letters f.follows))) = true then some (firstByte f ⟨op, a, b, n⟩ :: putList (letters f.follows) ⟨op, a, b, n⟩ (at_ + longOf (letters f.follows))) else none) := by
    clear hm hbd ht
    intro hm
    simp only [tab, List.mem_cons, List.not_mem_nil, or_false] at hm
    rcases hm with rfl | rfl | rfl | rfl | rfl | rfl | rfl | rfl | rfl | rfl | rfl | rfl | rfl | rfl | rfl | rfl | rfl | rfl | rfl | rfl | rfl | rfl | rfl | rfl | rfl | rfl | rfl | rfl | rfl | rfl | rfl | rfl | rfl
    all_goals
      intro hop ha1 ha2 hn1 hn2
      simp only at hop ha1 ha2 hn1 hn2
      simp only [lo, hi] at ha1 ha2 hn1 hn2
      simp at ha1 ha2 hn1 hn2
      subst hop
      first
      | rfl
      | (by_cases h0 : a = 0
         · subst h0
           first
           | (exfalso; omega)
           | rfl
           | (simp [sput, isJump, stab, longOf, letters, letterLong, letterFit, putList, letterPut, bytesOf, dv, letterNum, firstByte, sfirst, List.range, List.range.loop]; done)
         · by_cases h1 : a = 1
           · subst h1
             first
             | (exfalso; omega)
             | (simp [sput, isJump, stab, longOf, letters, letterLong, letterFit, putList, letterPut, bytesOf, dv, letterNum, firstByte, sfirst, List.range, List.range.loop]; omega)
           · exfalso; omega)
  exact key hm ht.1 ht.2.1.1 ht.2.1.2 ht.2.2.2.1 ht.2.2.2.2
theorem sput_eq (i : IIns) (at_ : Int) : (if (validIns i && inRange at_ 0 1999) = true then sput i at_ else none) = insPut i at_ := by
  cases hf : formOf i with
  | none =>
    have hv : validIns i = false := by rw [← some_valid, hf]; rfl
    simp [hv, insPut, hf]
  | some f =>
    have hv : validIns i = true := by rw [← some_valid, hf]; rfl
    cases hin : inRange at_ 0 1999
    · simp [insPut, hf, inR8, hin]
    · simp [hv, sput_some hf at_ hin]
end Go.Proofs.Ytadcepgeodcacaa.Ft
