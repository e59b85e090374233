/- Walks for the exact laws of chapter 1 that hold structs: flags are compared field by field, and copied field by field. -/
import Derived.Test.YtghkmblclfbfgaaL1
namespace Go.Proofs.Ytghkmblclfbfgaa.L1
open Go.RowKit Pl C1 Src

theorem eqFlags_c (x y z : Bool) (w : World) : Calls Try.prog 33 #[.agg #[.bool x, .bool y, .bool z], .agg #[.bool x, .bool y, .bool z]] w fun e w' => e = .returned (.bool true) ∧ Below w.heap.size w w' := by
  go_enter Try.func33, Try.ntmps33
  go_wp2
  go_ret
  exact ⟨rfl, ((Below.refl _ _).alloc (Nat.le_refl _) _).alloc (by simp) _⟩
theorem toFlags_c (x y z : Bool) (w : World) : Calls Try.prog 34 #[.agg #[.bool x, .bool y, .bool z]] w fun e w' => e = .returned (.agg #[.bool x, .bool y, .bool z]) ∧ Below w.heap.size w w' := by
  go_enter Try.func34, Try.ntmps34
  go_wp2
  refine bodyPost_ret (v := .agg #[.bool x, .bool y, .bool z]) (by simp [results, Try.results34, go_sem]) rfl ⟨rfl, ?_⟩
  go_grown
theorem exactFlagsOf_w (a b : Int) (w : World) : Calls Try.prog 13 #[.int .i64 a, .int .i64 b] w fun e w' => e = .returned (.bool true) ∧ Below w.heap.size w w' := by
  go_enter Try.func13, Try.ntmps13
  go_wp2_with fail
  refine (sFlagsOf_c _ _ _).mono ?_
  rintro e w2 ⟨rfl, b2⟩
  go_wp2_with fail
  obtain ⟨f0, f1, f2⟩ := cells3 w2 (.bool (fEq a b)) (.bool (fLess a b)) (.bool (fLow a b)) 33
  refine (flagsOf_c _ _ _).mono ?_
  rintro e w3 ⟨rfl, b3⟩
  replace f0 := keep b3 f0
  replace f1 := keep b3 f1
  replace f2 := keep b3 f2
  have z3 : w2.heap.size < w3.heap.size := by have := b3.size; simp at this; omega
  have b2' := (b2.alloc b2.size _).trans (b3.mono (by have := b2.size; simp; omega))
  clear b3
  go_wp2_with fail
  refine (eqFlags_c _ _ _ _).mono ?_
  rintro e w4 ⟨rfl, b4⟩
  have b3' := (b2'.alloc b2'.size _).trans (b4.mono (by have := b2'.size; simp; omega))
  go_wp2_with fail
  go_ret
  exact ⟨rfl, b3'⟩
theorem exactCondHolds_w (c : Int) (x y z : Bool) (w : World) : Calls Try.prog 14 #[.int .i64 c, .agg #[.bool x, .bool y, .bool z]] w fun e w' => e = .returned (.bool true) ∧ Below w.heap.size w w' := by
  go_enter Try.func14, Try.ntmps14
  go_wp2_with fail
  obtain ⟨f0, f1, f2⟩ := cells3 w (.bool x) (.bool y) (.bool z) 42
  refine (toFlags_c _ _ _ _).mono ?_
  rintro e w2 ⟨rfl, b2⟩
  replace f0 := keep b2 f0
  replace f1 := keep b2 f1
  replace f2 := keep b2 f2
  have b1' := ((Below.refl w.heap.size w).alloc (Nat.le_refl _) _).trans (b2.mono (by simp))
  clear b2
  go_wp2_with fail
  refine (sCondHolds_c _ _ _ _ _).mono ?_
  rintro e w3 ⟨rfl, b3⟩
  replace f0 := keep b3 f0
  replace f1 := keep b3 f1
  replace f2 := keep b3 f2
  have b2' := b1'.trans (b3.mono b1'.size)
  clear b3
  go_wp2_with fail
  refine (toFlags_c _ _ _ _).mono ?_
  rintro e w4 ⟨rfl, b4⟩
  have b3' := b2'.trans (b4.mono b2'.size)
  clear b4
  go_wp2_with fail
  refine (condHolds_c _ _ _ _ _).mono ?_
  rintro e w5 ⟨rfl, b5⟩
  have b4' := b3'.trans (b5.mono b3'.size)
  clear b5
  go_wp2_with fail
  go_ret
  exact ⟨rfl, b4'⟩
end Go.Proofs.Ytghkmblclfbfgaa.L1
