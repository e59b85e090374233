/- The model's isJump, long, InsLong: what they return. -/
import Derived.Test.YtcpkkedhgmnonaaDoorC2t
import Derived.Test.YtcpkkedhgmnonaaDoorFormLem2
set_option linter.unusedSimpArgs false
set_option linter.unusedVariables false
namespace Go.Proofs.YtcpkkedhgmnonaaDoor.C2
open Go.RowKit Pl Ft Mm

theorem isJump_c (i : IIns) (w : World) : Calls Tryd.prog 33 #[i.val] w fun e w' => e = .returned (.bool (isJump i)) ∧ Below w.heap.size w w' := by
  obtain ⟨op, a, b, n⟩ := i
  unfold IIns.val
  simp only
  have c1 := hid ((Below.refl w.heap.size w).alloc (Nat.le_refl _) (.cells #[.int .i64 op, .int .i64 a, .int .i64 b, .int .i64 n] 24))
  cases h1 : op == 27
  · cases h2 : op == 28
    all_goals
      go_enter Tryd.func33, Tryd.ntmps33
      go_wp2
      go_ret
      exact ⟨bool_eq (by simp [isJump, h1, h2]), c1.out⟩
  · go_enter Tryd.func33, Tryd.ntmps33
    go_wp2
    go_ret
    exact ⟨bool_eq (by simp [isJump, h1]), c1.out⟩
theorem stab_rest : ∀ k, k ≤ 30 → (stab.getD k .none).rest.size ≤ 2 := by decide +kernel
end Go.Proofs.YtcpkkedhgmnonaaDoor.C2
