/- validIns, InsOk of the model: what they return. -/
import Derived.Test.YtffibmlgdacafaaDoorC2s
import Derived.Test.YtffibmlgdacafaaDoorC1
import Derived.Deep.RegionHeld3
import Derived.Deep.RegionWith
import Derived.Deep.DeepCutAuto
set_option linter.unusedSimpArgs false
set_option linter.unusedVariables false
namespace Go.Proofs.YtffibmlgdacafaaDoor.C2
open Go.RowKit Pl Ft Mm

/-- The cells of row k of the model's table. -/
structure Forms (w : World) (g : Nat) (k : Nat) (f : SForm) : Prop where
  c0 : w.cell? ⟨g, k * 7, none⟩ = some (.int .i64 f.first)
  c1 : w.cell? ⟨g, k * 7 + 1, none⟩ = some (.int .u8 f.plus)
  c2 : w.cell? ⟨g, k * 7 + 2, none⟩ = some (.int .i64 f.a)
  c3 : w.cell? ⟨g, k * 7 + 3, none⟩ = some (.int .i64 f.b)
  c4 : w.cell? ⟨g, k * 7 + 4, none⟩ = some (.int .i64 f.low)
  c5 : w.cell? ⟨g, k * 7 + 5, none⟩ = some (.int .i64 f.high)
  c6 : w.cell? ⟨g, k * 7 + 6, none⟩ = some (.string f.rest)
  lt : g < w.heap.size
theorem stab_len : stab.length = 31 := by decide +kernel
theorem decB {p q : Prop} [Decidable p] [Decidable q] (h : p ↔ q) : decide p = decide q := by simp [h]
theorem inR_c (n l h : Int) (w : World) : Calls Tryd.prog 53 #[.int .i64 n, .int .i64 l, .int .i64 h] w fun e w' => e = .returned (.bool (inRange n l h)) ∧ w = w' := C1.inRange_c n l h w
end Go.Proofs.YtffibmlgdacafaaDoor.C2
