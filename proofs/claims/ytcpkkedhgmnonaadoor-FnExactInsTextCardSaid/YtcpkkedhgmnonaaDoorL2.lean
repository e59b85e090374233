/- Chapter 2's exact laws of InsOk and InsLong: the walks. -/
import Derived.Test.YtcpkkedhgmnonaaDoorC2u
import Derived.Test.YtcpkkedhgmnonaaDoorC2e
set_option linter.unusedSimpArgs false
set_option linter.unusedVariables false
namespace Go.Proofs.YtcpkkedhgmnonaaDoor.C2
open Go.RowKit Pl Ft Mm

theorem toIns_c (i : IIns) (w : World) : Calls Tryd.prog 9 #[i.val] w fun e w' => e = .returned i.val ∧ Below w.heap.size w w' := by
  obtain ⟨op, a, b, n⟩ := i
  unfold IIns.val
  simp only
  go_enter Tryd.func9, Tryd.ntmps9
  go_wp2
  refine bodyPost_ret (v := .agg #[.int .i64 op, .int .i64 a, .int .i64 b, .int .i64 n]) (by simp [results, Tryd.results9, go_sem]) rfl ⟨rfl, ?_⟩
  repeat' first | exact Below.refl _ _ | (refine Below.setCell ?_ (by simp; try omega) _) | (refine Below.alloc ?_ (by simp; try omega) _)
end Go.Proofs.YtcpkkedhgmnonaaDoor.C2
