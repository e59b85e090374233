/-
  No cell of these rows narrows 'for every input' (looked for: loops, veiled, ifaces, maps, wideKeys, modest, calm, conditions, laid).
  DERIVED. THE GIVEN ROWS OF THIS SEAT. 6 by the template 'for every input the law returns true; each argument reads behind the call as it read before'; 0 by the template 'total and deterministic' (their statements: YtiokmebmimgdjaaGreatTotals.lean).
  GIVEN WITH THE SEED: the statements are not yours to turn. If you find one false, say at which input.
  Laid BY PROGRAM, IN A SANDBOX (cutbox-rows.mjs): the forced cells as the released guide's own fill.sh prints them over the translation 1a36a430b708df58… (all of the seat's roots in one cut). By AI agents, Wed Nov 11 2026. No macro, syntax, notation, axiom, sorry.
-/
import Derived.Test.YtiokmebmimgdjaaGreatChecked
import GoSem.Claim
import GoSem.ClaimJoined
import GoSem.ClaimMapViews
import Derived.JoinedTies
import Derived.KernelRfl
namespace Go.Proofs.YtiokmebmimgdjaaGreat
/- THE CELL 'sum', in the pinned program and in every row, IS THE sha256 OF THE DUMP (.gsa) THAT YtiokmebmimgdjaaGreatProg.lean LOADS. Nothing in Lean hashes anything: it is a label: what it is worth is what the hold of that sum in a sandbox is worth. -/
noncomputable def Tryz.pinned : Pinned := { name := "ytiokmebmimgdjaagreat", sum := "1a36a430b708df58e05a64425394035a9e651955040bd496738771b46397d176", checked := Tryz.checked }
namespace Rows
def none {H : Type} : Left H := { results := [], args := [] }

/-- 'laws.FnExactFollowOf': WHATEVER THE INPUT: true; the input reads as it did. -/
def fnExactFollowOfSpec : ChangeSpec := { name := "fnExactFollowOf", fn := fun _ => fun
  | [d] => { results := [.lit (.bool true)], args := [d] }
  | _ => none }
def fnExactFollowOfRow : OpenClaim := { program := "ytiokmebmimgdjaagreat", sum := "1a36a430b708df58e05a64425394035a9e651955040bd496738771b46397d176", func := "loop.example/liftedcode/laws.FnExactFollowOf", spec := "fnExactFollowOf", unfollowed := true, recurses := true, apart := false }
def FnExactFollowOfSaid : Prop := fnExactFollowOfRow.holds Tryz.pinned (OpenSpec.ofChange fnExactFollowOfSpec)

/-- ITS FALSE NEIGHBOUR: 'it returns false'. Refute it at one input. -/
def fnExactFollowOfWrong : ChangeSpec := { name := "fnExactFollowOf", fn := fun _ => fun
  | [d] => { results := [.lit (.bool false)], args := [d] }
  | _ => none }
def FnExactFollowOfWrongFalsely : Prop := fnExactFollowOfRow.holds Tryz.pinned (OpenSpec.ofChange fnExactFollowOfWrong)

/-- 'laws.FnExactCodeMap': WHATEVER THE INPUT: true; the input reads as it did. -/
def fnExactCodeMapSpec : ChangeSpec := { name := "fnExactCodeMap", fn := fun _ => fun
  | [d] => { results := [.lit (.bool true)], args := [d] }
  | _ => none }
def fnExactCodeMapRow : OpenClaim := { program := "ytiokmebmimgdjaagreat", sum := "1a36a430b708df58e05a64425394035a9e651955040bd496738771b46397d176", func := "loop.example/liftedcode/laws.FnExactCodeMap", spec := "fnExactCodeMap", inPlace := ["internal/abi.NoEscape", "internal/bytealg.MakeNoZero"], unfollowed := true, recurses := true, apart := false }
def FnExactCodeMapSaid : Prop := fnExactCodeMapRow.holds Tryz.pinned (OpenSpec.ofChange fnExactCodeMapSpec)

/-- ITS FALSE NEIGHBOUR: 'it returns false'. Refute it at one input. -/
def fnExactCodeMapWrong : ChangeSpec := { name := "fnExactCodeMap", fn := fun _ => fun
  | [d] => { results := [.lit (.bool false)], args := [d] }
  | _ => none }
def FnExactCodeMapWrongFalsely : Prop := fnExactCodeMapRow.holds Tryz.pinned (OpenSpec.ofChange fnExactCodeMapWrong)

/-- 'laws.FnExactFunsOf': WHATEVER THE INPUT: true; the input reads as it did. -/
def fnExactFunsOfSpec : ChangeSpec := { name := "fnExactFunsOf", fn := fun _ => fun
  | [d] => { results := [.lit (.bool true)], args := [d] }
  | _ => none }
def fnExactFunsOfRow : OpenClaim := { program := "ytiokmebmimgdjaagreat", sum := "1a36a430b708df58e05a64425394035a9e651955040bd496738771b46397d176", func := "loop.example/liftedcode/laws.FnExactFunsOf", spec := "fnExactFunsOf", unfollowed := true, recurses := true, apart := false }
def FnExactFunsOfSaid : Prop := fnExactFunsOfRow.holds Tryz.pinned (OpenSpec.ofChange fnExactFunsOfSpec)

/-- ITS FALSE NEIGHBOUR: 'it returns false'. Refute it at one input. -/
def fnExactFunsOfWrong : ChangeSpec := { name := "fnExactFunsOf", fn := fun _ => fun
  | [d] => { results := [.lit (.bool false)], args := [d] }
  | _ => none }
def FnExactFunsOfWrongFalsely : Prop := fnExactFunsOfRow.holds Tryz.pinned (OpenSpec.ofChange fnExactFunsOfWrong)

/-- 'laws.FnExactBodyOf': WHATEVER THE INPUT: true; the input reads as it did. -/
def fnExactBodyOfSpec : ChangeSpec := { name := "fnExactBodyOf", fn := fun _ => fun
  | [d1, d2] => { results := [.lit (.bool true)], args := [d1, d2] }
  | _ => none }
def fnExactBodyOfRow : OpenClaim := { program := "ytiokmebmimgdjaagreat", sum := "1a36a430b708df58e05a64425394035a9e651955040bd496738771b46397d176", func := "loop.example/liftedcode/laws.FnExactBodyOf", spec := "fnExactBodyOf", unfollowed := true, recurses := true, apart := false }
def FnExactBodyOfSaid : Prop := fnExactBodyOfRow.holds Tryz.pinned (OpenSpec.ofChange fnExactBodyOfSpec)

/-- ITS FALSE NEIGHBOUR: 'it returns false'. Refute it at one input. -/
def fnExactBodyOfWrong : ChangeSpec := { name := "fnExactBodyOf", fn := fun _ => fun
  | [d1, d2] => { results := [.lit (.bool false)], args := [d1, d2] }
  | _ => none }
def FnExactBodyOfWrongFalsely : Prop := fnExactBodyOfRow.holds Tryz.pinned (OpenSpec.ofChange fnExactBodyOfWrong)

/-- 'laws.FnExactCalledIn': WHATEVER THE INPUT: true; the input reads as it did. -/
def fnExactCalledInSpec : ChangeSpec := { name := "fnExactCalledIn", fn := fun _ => fun
  | [d1, d2] => { results := [.lit (.bool true)], args := [d1, d2] }
  | _ => none }
def fnExactCalledInRow : OpenClaim := { program := "ytiokmebmimgdjaagreat", sum := "1a36a430b708df58e05a64425394035a9e651955040bd496738771b46397d176", func := "loop.example/liftedcode/laws.FnExactCalledIn", spec := "fnExactCalledIn", unfollowed := true, recurses := true, apart := false }
def FnExactCalledInSaid : Prop := fnExactCalledInRow.holds Tryz.pinned (OpenSpec.ofChange fnExactCalledInSpec)

/-- ITS FALSE NEIGHBOUR: 'it returns false'. Refute it at one input. -/
def fnExactCalledInWrong : ChangeSpec := { name := "fnExactCalledIn", fn := fun _ => fun
  | [d1, d2] => { results := [.lit (.bool false)], args := [d1, d2] }
  | _ => none }
def FnExactCalledInWrongFalsely : Prop := fnExactCalledInRow.holds Tryz.pinned (OpenSpec.ofChange fnExactCalledInWrong)

/-- 'laws.FnExactCallsItself': WHATEVER THE INPUT: true; the input reads as it did. -/
def fnExactCallsItselfSpec : ChangeSpec := { name := "fnExactCallsItself", fn := fun _ => fun
  | [d1, d2] => { results := [.lit (.bool true)], args := [d1, d2] }
  | _ => none }
def fnExactCallsItselfRow : OpenClaim := { program := "ytiokmebmimgdjaagreat", sum := "1a36a430b708df58e05a64425394035a9e651955040bd496738771b46397d176", func := "loop.example/liftedcode/laws.FnExactCallsItself", spec := "fnExactCallsItself", unfollowed := true, recurses := true, apart := false }
def FnExactCallsItselfSaid : Prop := fnExactCallsItselfRow.holds Tryz.pinned (OpenSpec.ofChange fnExactCallsItselfSpec)

/-- ITS FALSE NEIGHBOUR: 'it returns false'. Refute it at one input. -/
def fnExactCallsItselfWrong : ChangeSpec := { name := "fnExactCallsItself", fn := fun _ => fun
  | [d1, d2] => { results := [.lit (.bool false)], args := [d1, d2] }
  | _ => none }
def FnExactCallsItselfWrongFalsely : Prop := fnExactCallsItselfRow.holds Tryz.pinned (OpenSpec.ofChange fnExactCallsItselfWrong)

/- THE SECOND FORM. 'bulk': how many values and letters a reading holds, each counted each time it is reached (what is shared counts as often as it is met; a slice's spare places count too). A statement '..UptoSaid' is the law's where the arguments, and the package variables that the reading takes, are together of bulk at most 1048576: NARROWER than '..Said'. Prove '..Said' where nothing that the law and all that it calls make is longer than what came in: it says more and counts as full. Else prove '..UptoSaid'. A law counts once. -/
mutual
def uptoBulk {H : Type} : DataW H → Nat
  | .lit (.string bytes) => bytes.length + 1
  | .lit _ => 1
  | .nil => 1
  | .ptr d => uptoBulk d + 1
  | .slice elems spare => uptoBulkAll elems + uptoBulkAll spare + 1
  | .agg parts => uptoBulkAll parts + 1
  | .iface _ d => uptoBulk d + 1
  | .map entries => uptoBulkEntries entries + 1
  | .held _ => 1
def uptoBulkAll {H : Type} : List (DataW H) → Nat
  | [] => 0
  | d :: r => uptoBulk d + uptoBulkAll r
def uptoBulkEntries {H : Type} : List (Lit × DataW H) → Nat
  | [] => 0
  | x :: r => uptoBulkEntry x + uptoBulkEntries r
def uptoBulkEntry {H : Type} : Lit × DataW H → Nat
  | (.string bytes, d) => bytes.length + uptoBulk d + 1
  | (_, d) => uptoBulk d + 1
 end
def uptoSmall : (H : Type) → List (DataW H) → Bool := fun _ ds => decide (uptoBulkAll ds ≤ 1048576)
def OpenSpec.upto (s : _root_.Go.ChangeSpec) : _root_.Go.OpenSpec := { _root_.Go.OpenSpec.ofChange s with cond := some uptoSmall }

/-- 'laws.FnExactFollowOf', WHERE WHAT IT READS IS OF BULK AT MOST 1048576: true; the input reads as it did. -/
def fnExactFollowOfUptoRow : OpenClaim := { program := "ytiokmebmimgdjaagreat", sum := "1a36a430b708df58e05a64425394035a9e651955040bd496738771b46397d176", func := "loop.example/liftedcode/laws.FnExactFollowOf", spec := "fnExactFollowOf", unfollowed := true, recurses := true, apart := false, narrowed := true }
def FnExactFollowOfUptoSaid : Prop := fnExactFollowOfUptoRow.holds Tryz.pinned (OpenSpec.upto fnExactFollowOfSpec)

/-- 'laws.FnExactCodeMap', WHERE WHAT IT READS IS OF BULK AT MOST 1048576: true; the input reads as it did. -/
def fnExactCodeMapUptoRow : OpenClaim := { program := "ytiokmebmimgdjaagreat", sum := "1a36a430b708df58e05a64425394035a9e651955040bd496738771b46397d176", func := "loop.example/liftedcode/laws.FnExactCodeMap", spec := "fnExactCodeMap", inPlace := ["internal/abi.NoEscape", "internal/bytealg.MakeNoZero"], unfollowed := true, recurses := true, apart := false, narrowed := true }
def FnExactCodeMapUptoSaid : Prop := fnExactCodeMapUptoRow.holds Tryz.pinned (OpenSpec.upto fnExactCodeMapSpec)

/-- 'laws.FnExactFunsOf', WHERE WHAT IT READS IS OF BULK AT MOST 1048576: true; the input reads as it did. -/
def fnExactFunsOfUptoRow : OpenClaim := { program := "ytiokmebmimgdjaagreat", sum := "1a36a430b708df58e05a64425394035a9e651955040bd496738771b46397d176", func := "loop.example/liftedcode/laws.FnExactFunsOf", spec := "fnExactFunsOf", unfollowed := true, recurses := true, apart := false, narrowed := true }
def FnExactFunsOfUptoSaid : Prop := fnExactFunsOfUptoRow.holds Tryz.pinned (OpenSpec.upto fnExactFunsOfSpec)

/-- 'laws.FnExactBodyOf', WHERE WHAT IT READS IS OF BULK AT MOST 1048576: true; the input reads as it did. -/
def fnExactBodyOfUptoRow : OpenClaim := { program := "ytiokmebmimgdjaagreat", sum := "1a36a430b708df58e05a64425394035a9e651955040bd496738771b46397d176", func := "loop.example/liftedcode/laws.FnExactBodyOf", spec := "fnExactBodyOf", unfollowed := true, recurses := true, apart := false, narrowed := true }
def FnExactBodyOfUptoSaid : Prop := fnExactBodyOfUptoRow.holds Tryz.pinned (OpenSpec.upto fnExactBodyOfSpec)

/-- 'laws.FnExactCalledIn', WHERE WHAT IT READS IS OF BULK AT MOST 1048576: true; the input reads as it did. -/
def fnExactCalledInUptoRow : OpenClaim := { program := "ytiokmebmimgdjaagreat", sum := "1a36a430b708df58e05a64425394035a9e651955040bd496738771b46397d176", func := "loop.example/liftedcode/laws.FnExactCalledIn", spec := "fnExactCalledIn", unfollowed := true, recurses := true, apart := false, narrowed := true }
def FnExactCalledInUptoSaid : Prop := fnExactCalledInUptoRow.holds Tryz.pinned (OpenSpec.upto fnExactCalledInSpec)

/-- 'laws.FnExactCallsItself', WHERE WHAT IT READS IS OF BULK AT MOST 1048576: true; the input reads as it did. -/
def fnExactCallsItselfUptoRow : OpenClaim := { program := "ytiokmebmimgdjaagreat", sum := "1a36a430b708df58e05a64425394035a9e651955040bd496738771b46397d176", func := "loop.example/liftedcode/laws.FnExactCallsItself", spec := "fnExactCallsItself", unfollowed := true, recurses := true, apart := false, narrowed := true }
def FnExactCallsItselfUptoSaid : Prop := fnExactCallsItselfUptoRow.holds Tryz.pinned (OpenSpec.upto fnExactCallsItselfSpec)

end Rows
end Go.Proofs.YtiokmebmimgdjaaGreat
