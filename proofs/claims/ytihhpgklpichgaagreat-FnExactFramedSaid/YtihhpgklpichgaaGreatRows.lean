/-
  No cell of these rows narrows 'for every input' (looked for: loops, veiled, ifaces, maps, wideKeys, modest, calm, conditions, laid).
  DERIVED. THE GIVEN ROWS OF THIS SEAT. 10 by the template 'for every input the law returns true; each argument reads behind the call as it read before'; 0 by the template 'total and deterministic' (their statements: YtihhpgklpichgaaGreatTotals.lean).
  GIVEN WITH THE SEED: the statements are not yours to turn. If you find one false, say at which input.
  Laid BY PROGRAM, IN A SANDBOX (cutbox-rows.mjs): the forced cells as the released guide's own fill.sh prints them over the translation 4c096ed48503026f… (all of the seat's roots in one cut). By AI agents, Wed Nov 11 2026. No macro, syntax, notation, axiom, sorry.
-/
import Derived.Test.YtihhpgklpichgaaGreatChecked
import GoSem.Claim
import GoSem.ClaimJoined
import GoSem.ClaimMapViews
import Derived.JoinedTies
import Derived.KernelRfl
namespace Go.Proofs.YtihhpgklpichgaaGreat
/- THE CELL 'sum', in the pinned program and in every row, IS THE sha256 OF THE DUMP (.gsa) THAT YtihhpgklpichgaaGreatProg.lean LOADS. Nothing in Lean hashes anything: it is a label: what it is worth is what the hold of that sum in a sandbox is worth. -/
noncomputable def Tryz.pinned : Pinned := { name := "ytihhpgklpichgaagreat", sum := "4c096ed48503026f51b6ec84f58f501f629f66415adbb56d4b701b0fafff5015", checked := Tryz.checked }
namespace Rows
def none {H : Type} : Left H := { results := [], args := [] }

/-- 'laws.FnExactFollowOf': WHATEVER THE INPUT: true; the input reads as it did. -/
def fnExactFollowOfSpec : ChangeSpec := { name := "fnExactFollowOf", fn := fun _ => fun
  | [d] => { results := [.lit (.bool true)], args := [d] }
  | _ => none }
def fnExactFollowOfRow : OpenClaim := { program := "ytihhpgklpichgaagreat", sum := "4c096ed48503026f51b6ec84f58f501f629f66415adbb56d4b701b0fafff5015", func := "loop.example/liftedcode/laws.FnExactFollowOf", spec := "fnExactFollowOf", unfollowed := true, recurses := true, apart := false }
def FnExactFollowOfSaid : Prop := fnExactFollowOfRow.holds Tryz.pinned (OpenSpec.ofChange fnExactFollowOfSpec)

/-- ITS FALSE NEIGHBOUR: 'it returns false'. Refute it at one input. -/
def fnExactFollowOfWrong : ChangeSpec := { name := "fnExactFollowOf", fn := fun _ => fun
  | [d] => { results := [.lit (.bool false)], args := [d] }
  | _ => none }
def FnExactFollowOfWrongFalsely : Prop := fnExactFollowOfRow.holds Tryz.pinned (OpenSpec.ofChange fnExactFollowOfWrong)

/-- 'laws.FnExactFunsOf': WHATEVER THE INPUT: true; the input reads as it did. -/
def fnExactFunsOfSpec : ChangeSpec := { name := "fnExactFunsOf", fn := fun _ => fun
  | [d] => { results := [.lit (.bool true)], args := [d] }
  | _ => none }
def fnExactFunsOfRow : OpenClaim := { program := "ytihhpgklpichgaagreat", sum := "4c096ed48503026f51b6ec84f58f501f629f66415adbb56d4b701b0fafff5015", func := "loop.example/liftedcode/laws.FnExactFunsOf", spec := "fnExactFunsOf", unfollowed := true, recurses := true, apart := false }
def FnExactFunsOfSaid : Prop := fnExactFunsOfRow.holds Tryz.pinned (OpenSpec.ofChange fnExactFunsOfSpec)

/-- ITS FALSE NEIGHBOUR: 'it returns false'. Refute it at one input. -/
def fnExactFunsOfWrong : ChangeSpec := { name := "fnExactFunsOf", fn := fun _ => fun
  | [d] => { results := [.lit (.bool false)], args := [d] }
  | _ => none }
def FnExactFunsOfWrongFalsely : Prop := fnExactFunsOfRow.holds Tryz.pinned (OpenSpec.ofChange fnExactFunsOfWrong)

/-- 'laws.FnExactBodyOf': WHATEVER THE INPUT: true; the input reads as it did. -/
def fnExactBodyOfSpec : ChangeSpec := { name := "fnExactBodyOf", fn := fun _ => fun
  | [d1, d2] => { results := [.lit (.bool true)], args := [d1, d2] }
  | _ => none }
def fnExactBodyOfRow : OpenClaim := { program := "ytihhpgklpichgaagreat", sum := "4c096ed48503026f51b6ec84f58f501f629f66415adbb56d4b701b0fafff5015", func := "loop.example/liftedcode/laws.FnExactBodyOf", spec := "fnExactBodyOf", unfollowed := true, recurses := true, apart := false }
def FnExactBodyOfSaid : Prop := fnExactBodyOfRow.holds Tryz.pinned (OpenSpec.ofChange fnExactBodyOfSpec)

/-- ITS FALSE NEIGHBOUR: 'it returns false'. Refute it at one input. -/
def fnExactBodyOfWrong : ChangeSpec := { name := "fnExactBodyOf", fn := fun _ => fun
  | [d1, d2] => { results := [.lit (.bool false)], args := [d1, d2] }
  | _ => none }
def FnExactBodyOfWrongFalsely : Prop := fnExactBodyOfRow.holds Tryz.pinned (OpenSpec.ofChange fnExactBodyOfWrong)

/-- 'laws.FnExactCalledIn': WHATEVER THE INPUT: true; the input reads as it did. -/
def fnExactCalledInSpec : ChangeSpec := { name := "fnExactCalledIn", fn := fun _ => fun
  | [d1, d2] => { results := [.lit (.bool true)], args := [d1, d2] }
  | _ => none }
def fnExactCalledInRow : OpenClaim := { program := "ytihhpgklpichgaagreat", sum := "4c096ed48503026f51b6ec84f58f501f629f66415adbb56d4b701b0fafff5015", func := "loop.example/liftedcode/laws.FnExactCalledIn", spec := "fnExactCalledIn", unfollowed := true, recurses := true, apart := false }
def FnExactCalledInSaid : Prop := fnExactCalledInRow.holds Tryz.pinned (OpenSpec.ofChange fnExactCalledInSpec)

/-- ITS FALSE NEIGHBOUR: 'it returns false'. Refute it at one input. -/
def fnExactCalledInWrong : ChangeSpec := { name := "fnExactCalledIn", fn := fun _ => fun
  | [d1, d2] => { results := [.lit (.bool false)], args := [d1, d2] }
  | _ => none }
def FnExactCalledInWrongFalsely : Prop := fnExactCalledInRow.holds Tryz.pinned (OpenSpec.ofChange fnExactCalledInWrong)

/-- 'laws.FnExactCallsItself': WHATEVER THE INPUT: true; the input reads as it did. -/
def fnExactCallsItselfSpec : ChangeSpec := { name := "fnExactCallsItself", fn := fun _ => fun
  | [d1, d2] => { results := [.lit (.bool true)], args := [d1, d2] }
  | _ => none }
def fnExactCallsItselfRow : OpenClaim := { program := "ytihhpgklpichgaagreat", sum := "4c096ed48503026f51b6ec84f58f501f629f66415adbb56d4b701b0fafff5015", func := "loop.example/liftedcode/laws.FnExactCallsItself", spec := "fnExactCallsItself", unfollowed := true, recurses := true, apart := false }
def FnExactCallsItselfSaid : Prop := fnExactCallsItselfRow.holds Tryz.pinned (OpenSpec.ofChange fnExactCallsItselfSpec)

/-- ITS FALSE NEIGHBOUR: 'it returns false'. Refute it at one input. -/
def fnExactCallsItselfWrong : ChangeSpec := { name := "fnExactCallsItself", fn := fun _ => fun
  | [d1, d2] => { results := [.lit (.bool false)], args := [d1, d2] }
  | _ => none }
def FnExactCallsItselfWrongFalsely : Prop := fnExactCallsItselfRow.holds Tryz.pinned (OpenSpec.ofChange fnExactCallsItselfWrong)

/-- 'laws.FnExactCodeMap': WHATEVER THE INPUT: true; the input reads as it did. -/
def fnExactCodeMapSpec : ChangeSpec := { name := "fnExactCodeMap", fn := fun _ => fun
  | [d] => { results := [.lit (.bool true)], args := [d] }
  | _ => none }
def fnExactCodeMapRow : OpenClaim := { program := "ytihhpgklpichgaagreat", sum := "4c096ed48503026f51b6ec84f58f501f629f66415adbb56d4b701b0fafff5015", func := "loop.example/liftedcode/laws.FnExactCodeMap", spec := "fnExactCodeMap", inPlace := ["internal/abi.NoEscape", "internal/bytealg.MakeNoZero"], unfollowed := true, recurses := true, apart := false }
def FnExactCodeMapSaid : Prop := fnExactCodeMapRow.holds Tryz.pinned (OpenSpec.ofChange fnExactCodeMapSpec)

/-- ITS FALSE NEIGHBOUR: 'it returns false'. Refute it at one input. -/
def fnExactCodeMapWrong : ChangeSpec := { name := "fnExactCodeMap", fn := fun _ => fun
  | [d] => { results := [.lit (.bool false)], args := [d] }
  | _ => none }
def FnExactCodeMapWrongFalsely : Prop := fnExactCodeMapRow.holds Tryz.pinned (OpenSpec.ofChange fnExactCodeMapWrong)

/-- 'laws.FnExactBlocksOf': WHATEVER THE INPUT: true; the input reads as it did. -/
def fnExactBlocksOfSpec : ChangeSpec := { name := "fnExactBlocksOf", fn := fun _ => fun
  | [d1, d2] => { results := [.lit (.bool true)], args := [d1, d2] }
  | _ => none }
def fnExactBlocksOfRow : OpenClaim := { program := "ytihhpgklpichgaagreat", sum := "4c096ed48503026f51b6ec84f58f501f629f66415adbb56d4b701b0fafff5015", func := "loop.example/liftedcode/laws.FnExactBlocksOf", spec := "fnExactBlocksOf", unfollowed := true, recurses := true, apart := false }
def FnExactBlocksOfSaid : Prop := fnExactBlocksOfRow.holds Tryz.pinned (OpenSpec.ofChange fnExactBlocksOfSpec)

/-- ITS FALSE NEIGHBOUR: 'it returns false'. Refute it at one input. -/
def fnExactBlocksOfWrong : ChangeSpec := { name := "fnExactBlocksOf", fn := fun _ => fun
  | [d1, d2] => { results := [.lit (.bool false)], args := [d1, d2] }
  | _ => none }
def FnExactBlocksOfWrongFalsely : Prop := fnExactBlocksOfRow.holds Tryz.pinned (OpenSpec.ofChange fnExactBlocksOfWrong)

/-- 'laws.FnExactHeightsOf': WHATEVER THE INPUT: true; the input reads as it did. -/
def fnExactHeightsOfSpec : ChangeSpec := { name := "fnExactHeightsOf", fn := fun _ => fun
  | [d1, d2] => { results := [.lit (.bool true)], args := [d1, d2] }
  | _ => none }
def fnExactHeightsOfRow : OpenClaim := { program := "ytihhpgklpichgaagreat", sum := "4c096ed48503026f51b6ec84f58f501f629f66415adbb56d4b701b0fafff5015", func := "loop.example/liftedcode/laws.FnExactHeightsOf", spec := "fnExactHeightsOf", unfollowed := true, recurses := true, apart := false }
def FnExactHeightsOfSaid : Prop := fnExactHeightsOfRow.holds Tryz.pinned (OpenSpec.ofChange fnExactHeightsOfSpec)

/-- ITS FALSE NEIGHBOUR: 'it returns false'. Refute it at one input. -/
def fnExactHeightsOfWrong : ChangeSpec := { name := "fnExactHeightsOf", fn := fun _ => fun
  | [d1, d2] => { results := [.lit (.bool false)], args := [d1, d2] }
  | _ => none }
def FnExactHeightsOfWrongFalsely : Prop := fnExactHeightsOfRow.holds Tryz.pinned (OpenSpec.ofChange fnExactHeightsOfWrong)

/-- 'laws.FnExactFramed': WHATEVER THE INPUT: true; the input reads as it did. -/
def fnExactFramedSpec : ChangeSpec := { name := "fnExactFramed", fn := fun _ => fun
  | [d] => { results := [.lit (.bool true)], args := [d] }
  | _ => none }
def fnExactFramedRow : OpenClaim := { program := "ytihhpgklpichgaagreat", sum := "4c096ed48503026f51b6ec84f58f501f629f66415adbb56d4b701b0fafff5015", func := "loop.example/liftedcode/laws.FnExactFramed", spec := "fnExactFramed", unfollowed := true, recurses := true, apart := false }
def FnExactFramedSaid : Prop := fnExactFramedRow.holds Tryz.pinned (OpenSpec.ofChange fnExactFramedSpec)

/-- ITS FALSE NEIGHBOUR: 'it returns false'. Refute it at one input. -/
def fnExactFramedWrong : ChangeSpec := { name := "fnExactFramed", fn := fun _ => fun
  | [d] => { results := [.lit (.bool false)], args := [d] }
  | _ => none }
def FnExactFramedWrongFalsely : Prop := fnExactFramedRow.holds Tryz.pinned (OpenSpec.ofChange fnExactFramedWrong)

/-- 'laws.FnExactFrameOf': WHATEVER THE INPUT: true; the input reads as it did. -/
def fnExactFrameOfSpec : ChangeSpec := { name := "fnExactFrameOf", fn := fun _ => fun
  | [d1, d2] => { results := [.lit (.bool true)], args := [d1, d2] }
  | _ => none }
def fnExactFrameOfRow : OpenClaim := { program := "ytihhpgklpichgaagreat", sum := "4c096ed48503026f51b6ec84f58f501f629f66415adbb56d4b701b0fafff5015", func := "loop.example/liftedcode/laws.FnExactFrameOf", spec := "fnExactFrameOf", unfollowed := true, recurses := true, apart := false }
def FnExactFrameOfSaid : Prop := fnExactFrameOfRow.holds Tryz.pinned (OpenSpec.ofChange fnExactFrameOfSpec)

/-- ITS FALSE NEIGHBOUR: 'it returns false'. Refute it at one input. -/
def fnExactFrameOfWrong : ChangeSpec := { name := "fnExactFrameOf", fn := fun _ => fun
  | [d1, d2] => { results := [.lit (.bool false)], args := [d1, d2] }
  | _ => none }
def FnExactFrameOfWrongFalsely : Prop := fnExactFrameOfRow.holds Tryz.pinned (OpenSpec.ofChange fnExactFrameOfWrong)

/- THE SECOND FORM. 'bulk': how many values and letters a reading holds, each counted each time it is reached (what is shared counts as often as it is met; a slice's spare places count too). A statement '..UptoSaid' is the law's where the arguments, and the package variables that the reading takes, are together of bulk at most 1048576: NARROWER than '..Said'. Prove '..Said' where nothing that the law and all that it calls make is longer than what came in: it says more and counts as full. Else prove '..UptoSaid'. A law counts once. -/
mutual
def uptoBulk {H : Type} : DataW H → Nat
  | .lit (.string bytes) => bytes.length + 1
  | .lit _ => 1
  | .nil => 1
  | .ptr d => uptoBulk d + 1
  | .slice elems spare => uptoBulkAll elems + uptoBulkAll spare + 1
  | .agg parts => uptoBulkAll parts + 1
  | .iface _ d => uptoBulk d + 1
  | .map entries => uptoBulkEntries entries + 1
  | .held _ => 1
def uptoBulkAll {H : Type} : List (DataW H) → Nat
  | [] => 0
  | d :: r => uptoBulk d + uptoBulkAll r
def uptoBulkEntries {H : Type} : List (Lit × DataW H) → Nat
  | [] => 0
  | x :: r => uptoBulkEntry x + uptoBulkEntries r
def uptoBulkEntry {H : Type} : Lit × DataW H → Nat
  | (.string bytes, d) => bytes.length + uptoBulk d + 1
  | (_, d) => uptoBulk d + 1
 end
def uptoSmall : (H : Type) → List (DataW H) → Bool := fun _ ds => decide (uptoBulkAll ds ≤ 1048576)
def OpenSpec.upto (s : _root_.Go.ChangeSpec) : _root_.Go.OpenSpec := { _root_.Go.OpenSpec.ofChange s with cond := some uptoSmall }

/-- 'laws.FnExactFollowOf', WHERE WHAT IT READS IS OF BULK AT MOST 1048576: true; the input reads as it did. -/
def fnExactFollowOfUptoRow : OpenClaim := { program := "ytihhpgklpichgaagreat", sum := "4c096ed48503026f51b6ec84f58f501f629f66415adbb56d4b701b0fafff5015", func := "loop.example/liftedcode/laws.FnExactFollowOf", spec := "fnExactFollowOf", unfollowed := true, recurses := true, apart := false, narrowed := true }
def FnExactFollowOfUptoSaid : Prop := fnExactFollowOfUptoRow.holds Tryz.pinned (OpenSpec.upto fnExactFollowOfSpec)

/-- 'laws.FnExactFunsOf', WHERE WHAT IT READS IS OF BULK AT MOST 1048576: true; the input reads as it did. -/
def fnExactFunsOfUptoRow : OpenClaim := { program := "ytihhpgklpichgaagreat", sum := "4c096ed48503026f51b6ec84f58f501f629f66415adbb56d4b701b0fafff5015", func := "loop.example/liftedcode/laws.FnExactFunsOf", spec := "fnExactFunsOf", unfollowed := true, recurses := true, apart := false, narrowed := true }
def FnExactFunsOfUptoSaid : Prop := fnExactFunsOfUptoRow.holds Tryz.pinned (OpenSpec.upto fnExactFunsOfSpec)

/-- 'laws.FnExactBodyOf', WHERE WHAT IT READS IS OF BULK AT MOST 1048576: true; the input reads as it did. -/
def fnExactBodyOfUptoRow : OpenClaim := { program := "ytihhpgklpichgaagreat", sum := "4c096ed48503026f51b6ec84f58f501f629f66415adbb56d4b701b0fafff5015", func := "loop.example/liftedcode/laws.FnExactBodyOf", spec := "fnExactBodyOf", unfollowed := true, recurses := true, apart := false, narrowed := true }
def FnExactBodyOfUptoSaid : Prop := fnExactBodyOfUptoRow.holds Tryz.pinned (OpenSpec.upto fnExactBodyOfSpec)

/-- 'laws.FnExactCalledIn', WHERE WHAT IT READS IS OF BULK AT MOST 1048576: true; the input reads as it did. -/
def fnExactCalledInUptoRow : OpenClaim := { program := "ytihhpgklpichgaagreat", sum := "4c096ed48503026f51b6ec84f58f501f629f66415adbb56d4b701b0fafff5015", func := "loop.example/liftedcode/laws.FnExactCalledIn", spec := "fnExactCalledIn", unfollowed := true, recurses := true, apart := false, narrowed := true }
def FnExactCalledInUptoSaid : Prop := fnExactCalledInUptoRow.holds Tryz.pinned (OpenSpec.upto fnExactCalledInSpec)

/-- 'laws.FnExactCallsItself', WHERE WHAT IT READS IS OF BULK AT MOST 1048576: true; the input reads as it did. -/
def fnExactCallsItselfUptoRow : OpenClaim := { program := "ytihhpgklpichgaagreat", sum := "4c096ed48503026f51b6ec84f58f501f629f66415adbb56d4b701b0fafff5015", func := "loop.example/liftedcode/laws.FnExactCallsItself", spec := "fnExactCallsItself", unfollowed := true, recurses := true, apart := false, narrowed := true }
def FnExactCallsItselfUptoSaid : Prop := fnExactCallsItselfUptoRow.holds Tryz.pinned (OpenSpec.upto fnExactCallsItselfSpec)

/-- 'laws.FnExactCodeMap', WHERE WHAT IT READS IS OF BULK AT MOST 1048576: true; the input reads as it did. -/
def fnExactCodeMapUptoRow : OpenClaim := { program := "ytihhpgklpichgaagreat", sum := "4c096ed48503026f51b6ec84f58f501f629f66415adbb56d4b701b0fafff5015", func := "loop.example/liftedcode/laws.FnExactCodeMap", spec := "fnExactCodeMap", inPlace := ["internal/abi.NoEscape", "internal/bytealg.MakeNoZero"], unfollowed := true, recurses := true, apart := false, narrowed := true }
def FnExactCodeMapUptoSaid : Prop := fnExactCodeMapUptoRow.holds Tryz.pinned (OpenSpec.upto fnExactCodeMapSpec)

/-- 'laws.FnExactBlocksOf', WHERE WHAT IT READS IS OF BULK AT MOST 1048576: true; the input reads as it did. -/
def fnExactBlocksOfUptoRow : OpenClaim := { program := "ytihhpgklpichgaagreat", sum := "4c096ed48503026f51b6ec84f58f501f629f66415adbb56d4b701b0fafff5015", func := "loop.example/liftedcode/laws.FnExactBlocksOf", spec := "fnExactBlocksOf", unfollowed := true, recurses := true, apart := false, narrowed := true }
def FnExactBlocksOfUptoSaid : Prop := fnExactBlocksOfUptoRow.holds Tryz.pinned (OpenSpec.upto fnExactBlocksOfSpec)

/-- 'laws.FnExactHeightsOf', WHERE WHAT IT READS IS OF BULK AT MOST 1048576: true; the input reads as it did. -/
def fnExactHeightsOfUptoRow : OpenClaim := { program := "ytihhpgklpichgaagreat", sum := "4c096ed48503026f51b6ec84f58f501f629f66415adbb56d4b701b0fafff5015", func := "loop.example/liftedcode/laws.FnExactHeightsOf", spec := "fnExactHeightsOf", unfollowed := true, recurses := true, apart := false, narrowed := true }
def FnExactHeightsOfUptoSaid : Prop := fnExactHeightsOfUptoRow.holds Tryz.pinned (OpenSpec.upto fnExactHeightsOfSpec)

/-- 'laws.FnExactFramed', WHERE WHAT IT READS IS OF BULK AT MOST 1048576: true; the input reads as it did. -/
def fnExactFramedUptoRow : OpenClaim := { program := "ytihhpgklpichgaagreat", sum := "4c096ed48503026f51b6ec84f58f501f629f66415adbb56d4b701b0fafff5015", func := "loop.example/liftedcode/laws.FnExactFramed", spec := "fnExactFramed", unfollowed := true, recurses := true, apart := false, narrowed := true }
def FnExactFramedUptoSaid : Prop := fnExactFramedUptoRow.holds Tryz.pinned (OpenSpec.upto fnExactFramedSpec)

/-- 'laws.FnExactFrameOf', WHERE WHAT IT READS IS OF BULK AT MOST 1048576: true; the input reads as it did. -/
def fnExactFrameOfUptoRow : OpenClaim := { program := "ytihhpgklpichgaagreat", sum := "4c096ed48503026f51b6ec84f58f501f629f66415adbb56d4b701b0fafff5015", func := "loop.example/liftedcode/laws.FnExactFrameOf", spec := "fnExactFrameOf", unfollowed := true, recurses := true, apart := false, narrowed := true }
def FnExactFrameOfUptoSaid : Prop := fnExactFrameOfUptoRow.holds Tryz.pinned (OpenSpec.upto fnExactFrameOfSpec)

end Rows
end Go.Proofs.YtihhpgklpichgaaGreat
