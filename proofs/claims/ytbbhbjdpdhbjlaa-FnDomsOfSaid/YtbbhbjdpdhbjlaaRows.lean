/-
  No cell of these rows narrows 'for every input' (looked for: loops, veiled, ifaces, maps, wideKeys, modest, calm, conditions, laid).
  DERIVED. THE GIVEN ROWS OF THIS SEAT. 13 by the template 'for every input the law returns true; each argument reads behind the call as it read before'; 0 by the template 'total and deterministic' (their statements: YtbbhbjdpdhbjlaaTotals.lean).
  GIVEN WITH THE SEED: the statements are not yours to turn. If you find one false, say at which input.
  Laid BY PROGRAM, IN A SANDBOX (cutbox-rows.mjs): the forced cells as the released guide's own fill.sh prints them over the translation a4953f90f9d4a125… (all of the seat's roots in one cut). By AI agents, Wed Nov 11 2026. No macro, syntax, notation, axiom, sorry.
-/
import Derived.Test.YtbbhbjdpdhbjlaaChecked
import GoSem.Claim
import GoSem.ClaimJoined
import GoSem.ClaimMapViews
import Derived.JoinedTies
import Derived.KernelRfl
namespace Go.Proofs.Ytbbhbjdpdhbjlaa
/- THE CELL 'sum', in the pinned program and in every row, IS THE sha256 OF THE DUMP (.gsa) THAT YtbbhbjdpdhbjlaaProg.lean LOADS. Nothing in Lean hashes anything: it is a label: what it is worth is what the hold of that sum in a sandbox is worth. -/
noncomputable def Try.pinned : Pinned := { name := "ytbbhbjdpdhbjlaa", sum := "a4953f90f9d4a1253eab052ecef7d565a9d7997d026793d2087651f202ee5f5c", checked := Try.checked }
namespace Rows
def none {H : Type} : Left H := { results := [], args := [] }

/-- 'laws.FnGraphOk': WHATEVER THE INPUT: true; the input reads as it did. -/
def fnGraphOkSpec : ChangeSpec := { name := "fnGraphOk", fn := fun _ => fun
  | [d] => { results := [.lit (.bool true)], args := [d] }
  | _ => none }
def fnGraphOkRow : OpenClaim := { program := "ytbbhbjdpdhbjlaa", sum := "a4953f90f9d4a1253eab052ecef7d565a9d7997d026793d2087651f202ee5f5c", func := "loop.example/liftedcode/laws.FnGraphOk", spec := "fnGraphOk", unfollowed := true, recurses := true, apart := false }
def FnGraphOkSaid : Prop := fnGraphOkRow.holds Try.pinned (OpenSpec.ofChange fnGraphOkSpec)

/-- ITS FALSE NEIGHBOUR: 'it returns false'. Refute it at one input. -/
def fnGraphOkWrong : ChangeSpec := { name := "fnGraphOk", fn := fun _ => fun
  | [d] => { results := [.lit (.bool false)], args := [d] }
  | _ => none }
def FnGraphOkWrongFalsely : Prop := fnGraphOkRow.holds Try.pinned (OpenSpec.ofChange fnGraphOkWrong)

/-- 'laws.FnOrderOf': WHATEVER THE INPUT: true; the input reads as it did. -/
def fnOrderOfSpec : ChangeSpec := { name := "fnOrderOf", fn := fun _ => fun
  | [d] => { results := [.lit (.bool true)], args := [d] }
  | _ => none }
def fnOrderOfRow : OpenClaim := { program := "ytbbhbjdpdhbjlaa", sum := "a4953f90f9d4a1253eab052ecef7d565a9d7997d026793d2087651f202ee5f5c", func := "loop.example/liftedcode/laws.FnOrderOf", spec := "fnOrderOf", unfollowed := true, recurses := true, apart := false }
def FnOrderOfSaid : Prop := fnOrderOfRow.holds Try.pinned (OpenSpec.ofChange fnOrderOfSpec)

/-- ITS FALSE NEIGHBOUR: 'it returns false'. Refute it at one input. -/
def fnOrderOfWrong : ChangeSpec := { name := "fnOrderOf", fn := fun _ => fun
  | [d] => { results := [.lit (.bool false)], args := [d] }
  | _ => none }
def FnOrderOfWrongFalsely : Prop := fnOrderOfRow.holds Try.pinned (OpenSpec.ofChange fnOrderOfWrong)

/-- 'laws.FnDomsOf': WHATEVER THE INPUT: true; the input reads as it did. -/
def fnDomsOfSpec : ChangeSpec := { name := "fnDomsOf", fn := fun _ => fun
  | [d] => { results := [.lit (.bool true)], args := [d] }
  | _ => none }
def fnDomsOfRow : OpenClaim := { program := "ytbbhbjdpdhbjlaa", sum := "a4953f90f9d4a1253eab052ecef7d565a9d7997d026793d2087651f202ee5f5c", func := "loop.example/liftedcode/laws.FnDomsOf", spec := "fnDomsOf", unfollowed := true, recurses := true, apart := false }
def FnDomsOfSaid : Prop := fnDomsOfRow.holds Try.pinned (OpenSpec.ofChange fnDomsOfSpec)

/-- ITS FALSE NEIGHBOUR: 'it returns false'. Refute it at one input. -/
def fnDomsOfWrong : ChangeSpec := { name := "fnDomsOf", fn := fun _ => fun
  | [d] => { results := [.lit (.bool false)], args := [d] }
  | _ => none }
def FnDomsOfWrongFalsely : Prop := fnDomsOfRow.holds Try.pinned (OpenSpec.ofChange fnDomsOfWrong)

/-- 'laws.FnDominatesIn': WHATEVER THE INPUT: true; the input reads as it did. -/
def fnDominatesInSpec : ChangeSpec := { name := "fnDominatesIn", fn := fun _ => fun
  | [d] => { results := [.lit (.bool true)], args := [d] }
  | _ => none }
def fnDominatesInRow : OpenClaim := { program := "ytbbhbjdpdhbjlaa", sum := "a4953f90f9d4a1253eab052ecef7d565a9d7997d026793d2087651f202ee5f5c", func := "loop.example/liftedcode/laws.FnDominatesIn", spec := "fnDominatesIn", unfollowed := true, recurses := true, apart := false }
def FnDominatesInSaid : Prop := fnDominatesInRow.holds Try.pinned (OpenSpec.ofChange fnDominatesInSpec)

/-- ITS FALSE NEIGHBOUR: 'it returns false'. Refute it at one input. -/
def fnDominatesInWrong : ChangeSpec := { name := "fnDominatesIn", fn := fun _ => fun
  | [d] => { results := [.lit (.bool false)], args := [d] }
  | _ => none }
def FnDominatesInWrongFalsely : Prop := fnDominatesInRow.holds Try.pinned (OpenSpec.ofChange fnDominatesInWrong)

/-- 'laws.FnHeadsOf': WHATEVER THE INPUT: true; the input reads as it did. -/
def fnHeadsOfSpec : ChangeSpec := { name := "fnHeadsOf", fn := fun _ => fun
  | [d] => { results := [.lit (.bool true)], args := [d] }
  | _ => none }
def fnHeadsOfRow : OpenClaim := { program := "ytbbhbjdpdhbjlaa", sum := "a4953f90f9d4a1253eab052ecef7d565a9d7997d026793d2087651f202ee5f5c", func := "loop.example/liftedcode/laws.FnHeadsOf", spec := "fnHeadsOf", unfollowed := true, recurses := true, apart := false }
def FnHeadsOfSaid : Prop := fnHeadsOfRow.holds Try.pinned (OpenSpec.ofChange fnHeadsOfSpec)

/-- ITS FALSE NEIGHBOUR: 'it returns false'. Refute it at one input. -/
def fnHeadsOfWrong : ChangeSpec := { name := "fnHeadsOf", fn := fun _ => fun
  | [d] => { results := [.lit (.bool false)], args := [d] }
  | _ => none }
def FnHeadsOfWrongFalsely : Prop := fnHeadsOfRow.holds Try.pinned (OpenSpec.ofChange fnHeadsOfWrong)

/-- 'laws.FnLoopOf': WHATEVER THE INPUT: true; the input reads as it did. -/
def fnLoopOfSpec : ChangeSpec := { name := "fnLoopOf", fn := fun _ => fun
  | [d] => { results := [.lit (.bool true)], args := [d] }
  | _ => none }
def fnLoopOfRow : OpenClaim := { program := "ytbbhbjdpdhbjlaa", sum := "a4953f90f9d4a1253eab052ecef7d565a9d7997d026793d2087651f202ee5f5c", func := "loop.example/liftedcode/laws.FnLoopOf", spec := "fnLoopOf", unfollowed := true, recurses := true, apart := false }
def FnLoopOfSaid : Prop := fnLoopOfRow.holds Try.pinned (OpenSpec.ofChange fnLoopOfSpec)

/-- ITS FALSE NEIGHBOUR: 'it returns false'. Refute it at one input. -/
def fnLoopOfWrong : ChangeSpec := { name := "fnLoopOf", fn := fun _ => fun
  | [d] => { results := [.lit (.bool false)], args := [d] }
  | _ => none }
def FnLoopOfWrongFalsely : Prop := fnLoopOfRow.holds Try.pinned (OpenSpec.ofChange fnLoopOfWrong)

/-- 'laws.FnExactGraphOk': WHATEVER THE INPUT: true; the input reads as it did. -/
def fnExactGraphOkSpec : ChangeSpec := { name := "fnExactGraphOk", fn := fun _ => fun
  | [d] => { results := [.lit (.bool true)], args := [d] }
  | _ => none }
def fnExactGraphOkRow : OpenClaim := { program := "ytbbhbjdpdhbjlaa", sum := "a4953f90f9d4a1253eab052ecef7d565a9d7997d026793d2087651f202ee5f5c", func := "loop.example/liftedcode/laws.FnExactGraphOk", spec := "fnExactGraphOk", unfollowed := true, recurses := true, apart := false }
def FnExactGraphOkSaid : Prop := fnExactGraphOkRow.holds Try.pinned (OpenSpec.ofChange fnExactGraphOkSpec)

/-- ITS FALSE NEIGHBOUR: 'it returns false'. Refute it at one input. -/
def fnExactGraphOkWrong : ChangeSpec := { name := "fnExactGraphOk", fn := fun _ => fun
  | [d] => { results := [.lit (.bool false)], args := [d] }
  | _ => none }
def FnExactGraphOkWrongFalsely : Prop := fnExactGraphOkRow.holds Try.pinned (OpenSpec.ofChange fnExactGraphOkWrong)

/-- 'laws.FnExactOrderOf': WHATEVER THE INPUT: true; the input reads as it did. -/
def fnExactOrderOfSpec : ChangeSpec := { name := "fnExactOrderOf", fn := fun _ => fun
  | [d] => { results := [.lit (.bool true)], args := [d] }
  | _ => none }
def fnExactOrderOfRow : OpenClaim := { program := "ytbbhbjdpdhbjlaa", sum := "a4953f90f9d4a1253eab052ecef7d565a9d7997d026793d2087651f202ee5f5c", func := "loop.example/liftedcode/laws.FnExactOrderOf", spec := "fnExactOrderOf", unfollowed := true, recurses := true, apart := false }
def FnExactOrderOfSaid : Prop := fnExactOrderOfRow.holds Try.pinned (OpenSpec.ofChange fnExactOrderOfSpec)

/-- ITS FALSE NEIGHBOUR: 'it returns false'. Refute it at one input. -/
def fnExactOrderOfWrong : ChangeSpec := { name := "fnExactOrderOf", fn := fun _ => fun
  | [d] => { results := [.lit (.bool false)], args := [d] }
  | _ => none }
def FnExactOrderOfWrongFalsely : Prop := fnExactOrderOfRow.holds Try.pinned (OpenSpec.ofChange fnExactOrderOfWrong)

/-- 'laws.FnExactDomsOf': WHATEVER THE INPUT: true; the input reads as it did. -/
def fnExactDomsOfSpec : ChangeSpec := { name := "fnExactDomsOf", fn := fun _ => fun
  | [d] => { results := [.lit (.bool true)], args := [d] }
  | _ => none }
def fnExactDomsOfRow : OpenClaim := { program := "ytbbhbjdpdhbjlaa", sum := "a4953f90f9d4a1253eab052ecef7d565a9d7997d026793d2087651f202ee5f5c", func := "loop.example/liftedcode/laws.FnExactDomsOf", spec := "fnExactDomsOf", unfollowed := true, recurses := true, apart := false }
def FnExactDomsOfSaid : Prop := fnExactDomsOfRow.holds Try.pinned (OpenSpec.ofChange fnExactDomsOfSpec)

/-- ITS FALSE NEIGHBOUR: 'it returns false'. Refute it at one input. -/
def fnExactDomsOfWrong : ChangeSpec := { name := "fnExactDomsOf", fn := fun _ => fun
  | [d] => { results := [.lit (.bool false)], args := [d] }
  | _ => none }
def FnExactDomsOfWrongFalsely : Prop := fnExactDomsOfRow.holds Try.pinned (OpenSpec.ofChange fnExactDomsOfWrong)

/-- 'laws.FnExactDominatesIn': WHATEVER THE INPUT: true; the input reads as it did. -/
def fnExactDominatesInSpec : ChangeSpec := { name := "fnExactDominatesIn", fn := fun _ => fun
  | [d1, d2, d3] => { results := [.lit (.bool true)], args := [d1, d2, d3] }
  | _ => none }
def fnExactDominatesInRow : OpenClaim := { program := "ytbbhbjdpdhbjlaa", sum := "a4953f90f9d4a1253eab052ecef7d565a9d7997d026793d2087651f202ee5f5c", func := "loop.example/liftedcode/laws.FnExactDominatesIn", spec := "fnExactDominatesIn", unfollowed := true, recurses := true, apart := false }
def FnExactDominatesInSaid : Prop := fnExactDominatesInRow.holds Try.pinned (OpenSpec.ofChange fnExactDominatesInSpec)

/-- ITS FALSE NEIGHBOUR: 'it returns false'. Refute it at one input. -/
def fnExactDominatesInWrong : ChangeSpec := { name := "fnExactDominatesIn", fn := fun _ => fun
  | [d1, d2, d3] => { results := [.lit (.bool false)], args := [d1, d2, d3] }
  | _ => none }
def FnExactDominatesInWrongFalsely : Prop := fnExactDominatesInRow.holds Try.pinned (OpenSpec.ofChange fnExactDominatesInWrong)

/-- 'laws.FnExactHeadsOf': WHATEVER THE INPUT: true; the input reads as it did. -/
def fnExactHeadsOfSpec : ChangeSpec := { name := "fnExactHeadsOf", fn := fun _ => fun
  | [d] => { results := [.lit (.bool true)], args := [d] }
  | _ => none }
def fnExactHeadsOfRow : OpenClaim := { program := "ytbbhbjdpdhbjlaa", sum := "a4953f90f9d4a1253eab052ecef7d565a9d7997d026793d2087651f202ee5f5c", func := "loop.example/liftedcode/laws.FnExactHeadsOf", spec := "fnExactHeadsOf", unfollowed := true, recurses := true, apart := false }
def FnExactHeadsOfSaid : Prop := fnExactHeadsOfRow.holds Try.pinned (OpenSpec.ofChange fnExactHeadsOfSpec)

/-- ITS FALSE NEIGHBOUR: 'it returns false'. Refute it at one input. -/
def fnExactHeadsOfWrong : ChangeSpec := { name := "fnExactHeadsOf", fn := fun _ => fun
  | [d] => { results := [.lit (.bool false)], args := [d] }
  | _ => none }
def FnExactHeadsOfWrongFalsely : Prop := fnExactHeadsOfRow.holds Try.pinned (OpenSpec.ofChange fnExactHeadsOfWrong)

/-- 'laws.FnExactReducible': WHATEVER THE INPUT: true; the input reads as it did. -/
def fnExactReducibleSpec : ChangeSpec := { name := "fnExactReducible", fn := fun _ => fun
  | [d] => { results := [.lit (.bool true)], args := [d] }
  | _ => none }
def fnExactReducibleRow : OpenClaim := { program := "ytbbhbjdpdhbjlaa", sum := "a4953f90f9d4a1253eab052ecef7d565a9d7997d026793d2087651f202ee5f5c", func := "loop.example/liftedcode/laws.FnExactReducible", spec := "fnExactReducible", unfollowed := true, recurses := true, apart := false }
def FnExactReducibleSaid : Prop := fnExactReducibleRow.holds Try.pinned (OpenSpec.ofChange fnExactReducibleSpec)

/-- ITS FALSE NEIGHBOUR: 'it returns false'. Refute it at one input. -/
def fnExactReducibleWrong : ChangeSpec := { name := "fnExactReducible", fn := fun _ => fun
  | [d] => { results := [.lit (.bool false)], args := [d] }
  | _ => none }
def FnExactReducibleWrongFalsely : Prop := fnExactReducibleRow.holds Try.pinned (OpenSpec.ofChange fnExactReducibleWrong)

/-- 'laws.FnExactLoopOf': WHATEVER THE INPUT: true; the input reads as it did. -/
def fnExactLoopOfSpec : ChangeSpec := { name := "fnExactLoopOf", fn := fun _ => fun
  | [d1, d2] => { results := [.lit (.bool true)], args := [d1, d2] }
  | _ => none }
def fnExactLoopOfRow : OpenClaim := { program := "ytbbhbjdpdhbjlaa", sum := "a4953f90f9d4a1253eab052ecef7d565a9d7997d026793d2087651f202ee5f5c", func := "loop.example/liftedcode/laws.FnExactLoopOf", spec := "fnExactLoopOf", unfollowed := true, recurses := true, apart := false }
def FnExactLoopOfSaid : Prop := fnExactLoopOfRow.holds Try.pinned (OpenSpec.ofChange fnExactLoopOfSpec)

/-- ITS FALSE NEIGHBOUR: 'it returns false'. Refute it at one input. -/
def fnExactLoopOfWrong : ChangeSpec := { name := "fnExactLoopOf", fn := fun _ => fun
  | [d1, d2] => { results := [.lit (.bool false)], args := [d1, d2] }
  | _ => none }
def FnExactLoopOfWrongFalsely : Prop := fnExactLoopOfRow.holds Try.pinned (OpenSpec.ofChange fnExactLoopOfWrong)

/- THE SECOND FORM. 'bulk': how many values and letters a reading holds, each counted each time it is reached (what is shared counts as often as it is met; a slice's spare places count too). A statement '..UptoSaid' is the law's where the arguments, and the package variables that the reading takes, are together of bulk at most 1048576: NARROWER than '..Said'. Prove '..Said' where nothing that the law and all that it calls make is longer than what came in: it says more and counts as full. Else prove '..UptoSaid'. A law counts once. -/
mutual
def uptoBulk {H : Type} : DataW H → Nat
  | .lit (.string bytes) => bytes.length + 1
  | .lit _ => 1
  | .nil => 1
  | .ptr d => uptoBulk d + 1
  | .slice elems spare => uptoBulkAll elems + uptoBulkAll spare + 1
  | .agg parts => uptoBulkAll parts + 1
  | .iface _ d => uptoBulk d + 1
  | .map entries => uptoBulkEntries entries + 1
  | .held _ => 1
def uptoBulkAll {H : Type} : List (DataW H) → Nat
  | [] => 0
  | d :: r => uptoBulk d + uptoBulkAll r
def uptoBulkEntries {H : Type} : List (Lit × DataW H) → Nat
  | [] => 0
  | x :: r => uptoBulkEntry x + uptoBulkEntries r
def uptoBulkEntry {H : Type} : Lit × DataW H → Nat
  | (.string bytes, d) => bytes.length + uptoBulk d + 1
  | (_, d) => uptoBulk d + 1
 end
def uptoSmall : (H : Type) → List (DataW H) → Bool := fun _ ds => decide (uptoBulkAll ds ≤ 1048576)
def OpenSpec.upto (s : _root_.Go.ChangeSpec) : _root_.Go.OpenSpec := { _root_.Go.OpenSpec.ofChange s with cond := some uptoSmall }

/-- 'laws.FnGraphOk', WHERE WHAT IT READS IS OF BULK AT MOST 1048576: true; the input reads as it did. -/
def fnGraphOkUptoRow : OpenClaim := { program := "ytbbhbjdpdhbjlaa", sum := "a4953f90f9d4a1253eab052ecef7d565a9d7997d026793d2087651f202ee5f5c", func := "loop.example/liftedcode/laws.FnGraphOk", spec := "fnGraphOk", unfollowed := true, recurses := true, apart := false, narrowed := true }
def FnGraphOkUptoSaid : Prop := fnGraphOkUptoRow.holds Try.pinned (OpenSpec.upto fnGraphOkSpec)

/-- 'laws.FnOrderOf', WHERE WHAT IT READS IS OF BULK AT MOST 1048576: true; the input reads as it did. -/
def fnOrderOfUptoRow : OpenClaim := { program := "ytbbhbjdpdhbjlaa", sum := "a4953f90f9d4a1253eab052ecef7d565a9d7997d026793d2087651f202ee5f5c", func := "loop.example/liftedcode/laws.FnOrderOf", spec := "fnOrderOf", unfollowed := true, recurses := true, apart := false, narrowed := true }
def FnOrderOfUptoSaid : Prop := fnOrderOfUptoRow.holds Try.pinned (OpenSpec.upto fnOrderOfSpec)

/-- 'laws.FnDomsOf', WHERE WHAT IT READS IS OF BULK AT MOST 1048576: true; the input reads as it did. -/
def fnDomsOfUptoRow : OpenClaim := { program := "ytbbhbjdpdhbjlaa", sum := "a4953f90f9d4a1253eab052ecef7d565a9d7997d026793d2087651f202ee5f5c", func := "loop.example/liftedcode/laws.FnDomsOf", spec := "fnDomsOf", unfollowed := true, recurses := true, apart := false, narrowed := true }
def FnDomsOfUptoSaid : Prop := fnDomsOfUptoRow.holds Try.pinned (OpenSpec.upto fnDomsOfSpec)

/-- 'laws.FnDominatesIn', WHERE WHAT IT READS IS OF BULK AT MOST 1048576: true; the input reads as it did. -/
def fnDominatesInUptoRow : OpenClaim := { program := "ytbbhbjdpdhbjlaa", sum := "a4953f90f9d4a1253eab052ecef7d565a9d7997d026793d2087651f202ee5f5c", func := "loop.example/liftedcode/laws.FnDominatesIn", spec := "fnDominatesIn", unfollowed := true, recurses := true, apart := false, narrowed := true }
def FnDominatesInUptoSaid : Prop := fnDominatesInUptoRow.holds Try.pinned (OpenSpec.upto fnDominatesInSpec)

/-- 'laws.FnHeadsOf', WHERE WHAT IT READS IS OF BULK AT MOST 1048576: true; the input reads as it did. -/
def fnHeadsOfUptoRow : OpenClaim := { program := "ytbbhbjdpdhbjlaa", sum := "a4953f90f9d4a1253eab052ecef7d565a9d7997d026793d2087651f202ee5f5c", func := "loop.example/liftedcode/laws.FnHeadsOf", spec := "fnHeadsOf", unfollowed := true, recurses := true, apart := false, narrowed := true }
def FnHeadsOfUptoSaid : Prop := fnHeadsOfUptoRow.holds Try.pinned (OpenSpec.upto fnHeadsOfSpec)

/-- 'laws.FnLoopOf', WHERE WHAT IT READS IS OF BULK AT MOST 1048576: true; the input reads as it did. -/
def fnLoopOfUptoRow : OpenClaim := { program := "ytbbhbjdpdhbjlaa", sum := "a4953f90f9d4a1253eab052ecef7d565a9d7997d026793d2087651f202ee5f5c", func := "loop.example/liftedcode/laws.FnLoopOf", spec := "fnLoopOf", unfollowed := true, recurses := true, apart := false, narrowed := true }
def FnLoopOfUptoSaid : Prop := fnLoopOfUptoRow.holds Try.pinned (OpenSpec.upto fnLoopOfSpec)

/-- 'laws.FnExactGraphOk', WHERE WHAT IT READS IS OF BULK AT MOST 1048576: true; the input reads as it did. -/
def fnExactGraphOkUptoRow : OpenClaim := { program := "ytbbhbjdpdhbjlaa", sum := "a4953f90f9d4a1253eab052ecef7d565a9d7997d026793d2087651f202ee5f5c", func := "loop.example/liftedcode/laws.FnExactGraphOk", spec := "fnExactGraphOk", unfollowed := true, recurses := true, apart := false, narrowed := true }
def FnExactGraphOkUptoSaid : Prop := fnExactGraphOkUptoRow.holds Try.pinned (OpenSpec.upto fnExactGraphOkSpec)

/-- 'laws.FnExactOrderOf', WHERE WHAT IT READS IS OF BULK AT MOST 1048576: true; the input reads as it did. -/
def fnExactOrderOfUptoRow : OpenClaim := { program := "ytbbhbjdpdhbjlaa", sum := "a4953f90f9d4a1253eab052ecef7d565a9d7997d026793d2087651f202ee5f5c", func := "loop.example/liftedcode/laws.FnExactOrderOf", spec := "fnExactOrderOf", unfollowed := true, recurses := true, apart := false, narrowed := true }
def FnExactOrderOfUptoSaid : Prop := fnExactOrderOfUptoRow.holds Try.pinned (OpenSpec.upto fnExactOrderOfSpec)

/-- 'laws.FnExactDomsOf', WHERE WHAT IT READS IS OF BULK AT MOST 1048576: true; the input reads as it did. -/
def fnExactDomsOfUptoRow : OpenClaim := { program := "ytbbhbjdpdhbjlaa", sum := "a4953f90f9d4a1253eab052ecef7d565a9d7997d026793d2087651f202ee5f5c", func := "loop.example/liftedcode/laws.FnExactDomsOf", spec := "fnExactDomsOf", unfollowed := true, recurses := true, apart := false, narrowed := true }
def FnExactDomsOfUptoSaid : Prop := fnExactDomsOfUptoRow.holds Try.pinned (OpenSpec.upto fnExactDomsOfSpec)

/-- 'laws.FnExactDominatesIn', WHERE WHAT IT READS IS OF BULK AT MOST 1048576: true; the input reads as it did. -/
def fnExactDominatesInUptoRow : OpenClaim := { program := "ytbbhbjdpdhbjlaa", sum := "a4953f90f9d4a1253eab052ecef7d565a9d7997d026793d2087651f202ee5f5c", func := "loop.example/liftedcode/laws.FnExactDominatesIn", spec := "fnExactDominatesIn", unfollowed := true, recurses := true, apart := false, narrowed := true }
def FnExactDominatesInUptoSaid : Prop := fnExactDominatesInUptoRow.holds Try.pinned (OpenSpec.upto fnExactDominatesInSpec)

/-- 'laws.FnExactHeadsOf', WHERE WHAT IT READS IS OF BULK AT MOST 1048576: true; the input reads as it did. -/
def fnExactHeadsOfUptoRow : OpenClaim := { program := "ytbbhbjdpdhbjlaa", sum := "a4953f90f9d4a1253eab052ecef7d565a9d7997d026793d2087651f202ee5f5c", func := "loop.example/liftedcode/laws.FnExactHeadsOf", spec := "fnExactHeadsOf", unfollowed := true, recurses := true, apart := false, narrowed := true }
def FnExactHeadsOfUptoSaid : Prop := fnExactHeadsOfUptoRow.holds Try.pinned (OpenSpec.upto fnExactHeadsOfSpec)

/-- 'laws.FnExactReducible', WHERE WHAT IT READS IS OF BULK AT MOST 1048576: true; the input reads as it did. -/
def fnExactReducibleUptoRow : OpenClaim := { program := "ytbbhbjdpdhbjlaa", sum := "a4953f90f9d4a1253eab052ecef7d565a9d7997d026793d2087651f202ee5f5c", func := "loop.example/liftedcode/laws.FnExactReducible", spec := "fnExactReducible", unfollowed := true, recurses := true, apart := false, narrowed := true }
def FnExactReducibleUptoSaid : Prop := fnExactReducibleUptoRow.holds Try.pinned (OpenSpec.upto fnExactReducibleSpec)

/-- 'laws.FnExactLoopOf', WHERE WHAT IT READS IS OF BULK AT MOST 1048576: true; the input reads as it did. -/
def fnExactLoopOfUptoRow : OpenClaim := { program := "ytbbhbjdpdhbjlaa", sum := "a4953f90f9d4a1253eab052ecef7d565a9d7997d026793d2087651f202ee5f5c", func := "loop.example/liftedcode/laws.FnExactLoopOf", spec := "fnExactLoopOf", unfollowed := true, recurses := true, apart := false, narrowed := true }
def FnExactLoopOfUptoSaid : Prop := fnExactLoopOfUptoRow.holds Try.pinned (OpenSpec.upto fnExactLoopOfSpec)

end Rows
end Go.Proofs.Ytbbhbjdpdhbjlaa
