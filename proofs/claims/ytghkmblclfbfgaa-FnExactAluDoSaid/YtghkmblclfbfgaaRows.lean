/-
  No cell of these rows narrows 'for every input' (looked for: loops, veiled, ifaces, maps, wideKeys, modest, calm, conditions, laid).
  DERIVED. THE GIVEN ROWS OF THIS SEAT. 12 by the template 'for every input the law returns true; each argument reads behind the call as it read before'; 0 by the template 'total and deterministic' (their statements: YtghkmblclfbfgaaTotals.lean).
  GIVEN WITH THE SEED: the statements are not yours to turn. If you find one false, say at which input.
  Laid BY PROGRAM, IN A SANDBOX (cutbox-rows.mjs): the forced cells as the released guide's own fill.sh prints them over the translation 7fd1a82d86d8e087… (all of the seat's roots in one cut). By AI agents, Wed Nov 11 2026. No macro, syntax, notation, axiom, sorry.
-/
import Derived.Test.YtghkmblclfbfgaaChecked
import GoSem.Claim
import GoSem.ClaimJoined
import GoSem.ClaimMapViews
import Derived.JoinedTies
import Derived.KernelRfl
namespace Go.Proofs.Ytghkmblclfbfgaa
/- THE CELL 'sum', in the pinned program and in every row, IS THE sha256 OF THE DUMP (.gsa) THAT YtghkmblclfbfgaaProg.lean LOADS. Nothing in Lean hashes anything: it is a label: what it is worth is what the hold of that sum in a sandbox is worth. -/
noncomputable def Try.pinned : Pinned := { name := "ytghkmblclfbfgaa", sum := "7fd1a82d86d8e0877d0c0c99ee33d56cdee5e1d3c4825c42a4bfd2b670a42062", checked := Try.checked }
namespace Rows
def none {H : Type} : Left H := { results := [], args := [] }

/-- 'laws.FnWordOf': WHATEVER THE INPUT: true; the input reads as it did. -/
def fnWordOfSpec : ChangeSpec := { name := "fnWordOf", fn := fun _ => fun
  | [d] => { results := [.lit (.bool true)], args := [d] }
  | _ => none }
def fnWordOfRow : OpenClaim := { program := "ytghkmblclfbfgaa", sum := "7fd1a82d86d8e0877d0c0c99ee33d56cdee5e1d3c4825c42a4bfd2b670a42062", func := "loop.example/liftedcode/laws.FnWordOf", spec := "fnWordOf", apart := false }
def FnWordOfSaid : Prop := fnWordOfRow.holds Try.pinned (OpenSpec.ofChange fnWordOfSpec)

/-- ITS FALSE NEIGHBOUR: 'it returns false'. Refute it at one input. -/
def fnWordOfWrong : ChangeSpec := { name := "fnWordOf", fn := fun _ => fun
  | [d] => { results := [.lit (.bool false)], args := [d] }
  | _ => none }
def FnWordOfWrongFalsely : Prop := fnWordOfRow.holds Try.pinned (OpenSpec.ofChange fnWordOfWrong)

/-- 'laws.FnSignedOf': WHATEVER THE INPUT: true; the input reads as it did. -/
def fnSignedOfSpec : ChangeSpec := { name := "fnSignedOf", fn := fun _ => fun
  | [d] => { results := [.lit (.bool true)], args := [d] }
  | _ => none }
def fnSignedOfRow : OpenClaim := { program := "ytghkmblclfbfgaa", sum := "7fd1a82d86d8e0877d0c0c99ee33d56cdee5e1d3c4825c42a4bfd2b670a42062", func := "loop.example/liftedcode/laws.FnSignedOf", spec := "fnSignedOf", apart := false }
def FnSignedOfSaid : Prop := fnSignedOfRow.holds Try.pinned (OpenSpec.ofChange fnSignedOfSpec)

/-- ITS FALSE NEIGHBOUR: 'it returns false'. Refute it at one input. -/
def fnSignedOfWrong : ChangeSpec := { name := "fnSignedOf", fn := fun _ => fun
  | [d] => { results := [.lit (.bool false)], args := [d] }
  | _ => none }
def FnSignedOfWrongFalsely : Prop := fnSignedOfRow.holds Try.pinned (OpenSpec.ofChange fnSignedOfWrong)

/-- 'laws.FnLowPut': WHATEVER THE INPUT: true; the input reads as it did. -/
def fnLowPutSpec : ChangeSpec := { name := "fnLowPut", fn := fun _ => fun
  | [d] => { results := [.lit (.bool true)], args := [d] }
  | _ => none }
def fnLowPutRow : OpenClaim := { program := "ytghkmblclfbfgaa", sum := "7fd1a82d86d8e0877d0c0c99ee33d56cdee5e1d3c4825c42a4bfd2b670a42062", func := "loop.example/liftedcode/laws.FnLowPut", spec := "fnLowPut", unfollowed := true, recurses := true, apart := false }
def FnLowPutSaid : Prop := fnLowPutRow.holds Try.pinned (OpenSpec.ofChange fnLowPutSpec)

/-- ITS FALSE NEIGHBOUR: 'it returns false'. Refute it at one input. -/
def fnLowPutWrong : ChangeSpec := { name := "fnLowPut", fn := fun _ => fun
  | [d] => { results := [.lit (.bool false)], args := [d] }
  | _ => none }
def FnLowPutWrongFalsely : Prop := fnLowPutRow.holds Try.pinned (OpenSpec.ofChange fnLowPutWrong)

/-- 'laws.FnAluDo': WHATEVER THE INPUT: true; the input reads as it did. -/
def fnAluDoSpec : ChangeSpec := { name := "fnAluDo", fn := fun _ => fun
  | [d] => { results := [.lit (.bool true)], args := [d] }
  | _ => none }
def fnAluDoRow : OpenClaim := { program := "ytghkmblclfbfgaa", sum := "7fd1a82d86d8e0877d0c0c99ee33d56cdee5e1d3c4825c42a4bfd2b670a42062", func := "loop.example/liftedcode/laws.FnAluDo", spec := "fnAluDo", unfollowed := true, recurses := true, apart := false }
def FnAluDoSaid : Prop := fnAluDoRow.holds Try.pinned (OpenSpec.ofChange fnAluDoSpec)

/-- ITS FALSE NEIGHBOUR: 'it returns false'. Refute it at one input. -/
def fnAluDoWrong : ChangeSpec := { name := "fnAluDo", fn := fun _ => fun
  | [d] => { results := [.lit (.bool false)], args := [d] }
  | _ => none }
def FnAluDoWrongFalsely : Prop := fnAluDoRow.holds Try.pinned (OpenSpec.ofChange fnAluDoWrong)

/-- 'laws.FnFlagsOf': WHATEVER THE INPUT: true; the input reads as it did. -/
def fnFlagsOfSpec : ChangeSpec := { name := "fnFlagsOf", fn := fun _ => fun
  | [d] => { results := [.lit (.bool true)], args := [d] }
  | _ => none }
def fnFlagsOfRow : OpenClaim := { program := "ytghkmblclfbfgaa", sum := "7fd1a82d86d8e0877d0c0c99ee33d56cdee5e1d3c4825c42a4bfd2b670a42062", func := "loop.example/liftedcode/laws.FnFlagsOf", spec := "fnFlagsOf", apart := false }
def FnFlagsOfSaid : Prop := fnFlagsOfRow.holds Try.pinned (OpenSpec.ofChange fnFlagsOfSpec)

/-- ITS FALSE NEIGHBOUR: 'it returns false'. Refute it at one input. -/
def fnFlagsOfWrong : ChangeSpec := { name := "fnFlagsOf", fn := fun _ => fun
  | [d] => { results := [.lit (.bool false)], args := [d] }
  | _ => none }
def FnFlagsOfWrongFalsely : Prop := fnFlagsOfRow.holds Try.pinned (OpenSpec.ofChange fnFlagsOfWrong)

/-- 'laws.FnCondHolds': WHATEVER THE INPUT: true; the input reads as it did. -/
def fnCondHoldsSpec : ChangeSpec := { name := "fnCondHolds", fn := fun _ => fun
  | [d] => { results := [.lit (.bool true)], args := [d] }
  | _ => none }
def fnCondHoldsRow : OpenClaim := { program := "ytghkmblclfbfgaa", sum := "7fd1a82d86d8e0877d0c0c99ee33d56cdee5e1d3c4825c42a4bfd2b670a42062", func := "loop.example/liftedcode/laws.FnCondHolds", spec := "fnCondHolds", apart := false }
def FnCondHoldsSaid : Prop := fnCondHoldsRow.holds Try.pinned (OpenSpec.ofChange fnCondHoldsSpec)

/-- ITS FALSE NEIGHBOUR: 'it returns false'. Refute it at one input. -/
def fnCondHoldsWrong : ChangeSpec := { name := "fnCondHolds", fn := fun _ => fun
  | [d] => { results := [.lit (.bool false)], args := [d] }
  | _ => none }
def FnCondHoldsWrongFalsely : Prop := fnCondHoldsRow.holds Try.pinned (OpenSpec.ofChange fnCondHoldsWrong)

/-- 'laws.FnExactWordOf': WHATEVER THE INPUT: true; the input reads as it did. -/
def fnExactWordOfSpec : ChangeSpec := { name := "fnExactWordOf", fn := fun _ => fun
  | [d] => { results := [.lit (.bool true)], args := [d] }
  | _ => none }
def fnExactWordOfRow : OpenClaim := { program := "ytghkmblclfbfgaa", sum := "7fd1a82d86d8e0877d0c0c99ee33d56cdee5e1d3c4825c42a4bfd2b670a42062", func := "loop.example/liftedcode/laws.FnExactWordOf", spec := "fnExactWordOf", apart := false }
def FnExactWordOfSaid : Prop := fnExactWordOfRow.holds Try.pinned (OpenSpec.ofChange fnExactWordOfSpec)

/-- ITS FALSE NEIGHBOUR: 'it returns false'. Refute it at one input. -/
def fnExactWordOfWrong : ChangeSpec := { name := "fnExactWordOf", fn := fun _ => fun
  | [d] => { results := [.lit (.bool false)], args := [d] }
  | _ => none }
def FnExactWordOfWrongFalsely : Prop := fnExactWordOfRow.holds Try.pinned (OpenSpec.ofChange fnExactWordOfWrong)

/-- 'laws.FnExactSignedOf': WHATEVER THE INPUT: true; the input reads as it did. -/
def fnExactSignedOfSpec : ChangeSpec := { name := "fnExactSignedOf", fn := fun _ => fun
  | [d] => { results := [.lit (.bool true)], args := [d] }
  | _ => none }
def fnExactSignedOfRow : OpenClaim := { program := "ytghkmblclfbfgaa", sum := "7fd1a82d86d8e0877d0c0c99ee33d56cdee5e1d3c4825c42a4bfd2b670a42062", func := "loop.example/liftedcode/laws.FnExactSignedOf", spec := "fnExactSignedOf", apart := false }
def FnExactSignedOfSaid : Prop := fnExactSignedOfRow.holds Try.pinned (OpenSpec.ofChange fnExactSignedOfSpec)

/-- ITS FALSE NEIGHBOUR: 'it returns false'. Refute it at one input. -/
def fnExactSignedOfWrong : ChangeSpec := { name := "fnExactSignedOf", fn := fun _ => fun
  | [d] => { results := [.lit (.bool false)], args := [d] }
  | _ => none }
def FnExactSignedOfWrongFalsely : Prop := fnExactSignedOfRow.holds Try.pinned (OpenSpec.ofChange fnExactSignedOfWrong)

/-- 'laws.FnExactLowPut': WHATEVER THE INPUT: true; the input reads as it did. -/
def fnExactLowPutSpec : ChangeSpec := { name := "fnExactLowPut", fn := fun _ => fun
  | [d1, d2] => { results := [.lit (.bool true)], args := [d1, d2] }
  | _ => none }
def fnExactLowPutRow : OpenClaim := { program := "ytghkmblclfbfgaa", sum := "7fd1a82d86d8e0877d0c0c99ee33d56cdee5e1d3c4825c42a4bfd2b670a42062", func := "loop.example/liftedcode/laws.FnExactLowPut", spec := "fnExactLowPut", apart := false }
def FnExactLowPutSaid : Prop := fnExactLowPutRow.holds Try.pinned (OpenSpec.ofChange fnExactLowPutSpec)

/-- ITS FALSE NEIGHBOUR: 'it returns false'. Refute it at one input. -/
def fnExactLowPutWrong : ChangeSpec := { name := "fnExactLowPut", fn := fun _ => fun
  | [d1, d2] => { results := [.lit (.bool false)], args := [d1, d2] }
  | _ => none }
def FnExactLowPutWrongFalsely : Prop := fnExactLowPutRow.holds Try.pinned (OpenSpec.ofChange fnExactLowPutWrong)

/-- 'laws.FnExactAluDo': WHATEVER THE INPUT: true; the input reads as it did. -/
def fnExactAluDoSpec : ChangeSpec := { name := "fnExactAluDo", fn := fun _ => fun
  | [d1, d2, d3] => { results := [.lit (.bool true)], args := [d1, d2, d3] }
  | _ => none }
def fnExactAluDoRow : OpenClaim := { program := "ytghkmblclfbfgaa", sum := "7fd1a82d86d8e0877d0c0c99ee33d56cdee5e1d3c4825c42a4bfd2b670a42062", func := "loop.example/liftedcode/laws.FnExactAluDo", spec := "fnExactAluDo", unfollowed := true, recurses := true, apart := false }
def FnExactAluDoSaid : Prop := fnExactAluDoRow.holds Try.pinned (OpenSpec.ofChange fnExactAluDoSpec)

/-- ITS FALSE NEIGHBOUR: 'it returns false'. Refute it at one input. -/
def fnExactAluDoWrong : ChangeSpec := { name := "fnExactAluDo", fn := fun _ => fun
  | [d1, d2, d3] => { results := [.lit (.bool false)], args := [d1, d2, d3] }
  | _ => none }
def FnExactAluDoWrongFalsely : Prop := fnExactAluDoRow.holds Try.pinned (OpenSpec.ofChange fnExactAluDoWrong)

/-- 'laws.FnExactFlagsOf': WHATEVER THE INPUT: true; the input reads as it did. -/
def fnExactFlagsOfSpec : ChangeSpec := { name := "fnExactFlagsOf", fn := fun _ => fun
  | [d1, d2] => { results := [.lit (.bool true)], args := [d1, d2] }
  | _ => none }
def fnExactFlagsOfRow : OpenClaim := { program := "ytghkmblclfbfgaa", sum := "7fd1a82d86d8e0877d0c0c99ee33d56cdee5e1d3c4825c42a4bfd2b670a42062", func := "loop.example/liftedcode/laws.FnExactFlagsOf", spec := "fnExactFlagsOf", apart := false }
def FnExactFlagsOfSaid : Prop := fnExactFlagsOfRow.holds Try.pinned (OpenSpec.ofChange fnExactFlagsOfSpec)

/-- ITS FALSE NEIGHBOUR: 'it returns false'. Refute it at one input. -/
def fnExactFlagsOfWrong : ChangeSpec := { name := "fnExactFlagsOf", fn := fun _ => fun
  | [d1, d2] => { results := [.lit (.bool false)], args := [d1, d2] }
  | _ => none }
def FnExactFlagsOfWrongFalsely : Prop := fnExactFlagsOfRow.holds Try.pinned (OpenSpec.ofChange fnExactFlagsOfWrong)

/-- 'laws.FnExactCondHolds': WHATEVER THE INPUT: true; the input reads as it did. -/
def fnExactCondHoldsSpec : ChangeSpec := { name := "fnExactCondHolds", fn := fun _ => fun
  | [d1, d2] => { results := [.lit (.bool true)], args := [d1, d2] }
  | _ => none }
def fnExactCondHoldsRow : OpenClaim := { program := "ytghkmblclfbfgaa", sum := "7fd1a82d86d8e0877d0c0c99ee33d56cdee5e1d3c4825c42a4bfd2b670a42062", func := "loop.example/liftedcode/laws.FnExactCondHolds", spec := "fnExactCondHolds", apart := false }
def FnExactCondHoldsSaid : Prop := fnExactCondHoldsRow.holds Try.pinned (OpenSpec.ofChange fnExactCondHoldsSpec)

/-- ITS FALSE NEIGHBOUR: 'it returns false'. Refute it at one input. -/
def fnExactCondHoldsWrong : ChangeSpec := { name := "fnExactCondHolds", fn := fun _ => fun
  | [d1, d2] => { results := [.lit (.bool false)], args := [d1, d2] }
  | _ => none }
def FnExactCondHoldsWrongFalsely : Prop := fnExactCondHoldsRow.holds Try.pinned (OpenSpec.ofChange fnExactCondHoldsWrong)

/- THE SECOND FORM. 'bulk': how many values and letters a reading holds, each counted each time it is reached (what is shared counts as often as it is met; a slice's spare places count too). A statement '..UptoSaid' is the law's where the arguments, and the package variables that the reading takes, are together of bulk at most 1048576: NARROWER than '..Said'. Prove '..Said' where nothing that the law and all that it calls make is longer than what came in: it says more and counts as full. Else prove '..UptoSaid'. A law counts once. -/
mutual
def uptoBulk {H : Type} : DataW H → Nat
  | .lit (.string bytes) => bytes.length + 1
  | .lit _ => 1
  | .nil => 1
  | .ptr d => uptoBulk d + 1
  | .slice elems spare => uptoBulkAll elems + uptoBulkAll spare + 1
  | .agg parts => uptoBulkAll parts + 1
  | .iface _ d => uptoBulk d + 1
  | .map entries => uptoBulkEntries entries + 1
  | .held _ => 1
def uptoBulkAll {H : Type} : List (DataW H) → Nat
  | [] => 0
  | d :: r => uptoBulk d + uptoBulkAll r
def uptoBulkEntries {H : Type} : List (Lit × DataW H) → Nat
  | [] => 0
  | x :: r => uptoBulkEntry x + uptoBulkEntries r
def uptoBulkEntry {H : Type} : Lit × DataW H → Nat
  | (.string bytes, d) => bytes.length + uptoBulk d + 1
  | (_, d) => uptoBulk d + 1
 end
def uptoSmall : (H : Type) → List (DataW H) → Bool := fun _ ds => decide (uptoBulkAll ds ≤ 1048576)
def OpenSpec.upto (s : _root_.Go.ChangeSpec) : _root_.Go.OpenSpec := { _root_.Go.OpenSpec.ofChange s with cond := some uptoSmall }

/-- 'laws.FnWordOf', WHERE WHAT IT READS IS OF BULK AT MOST 1048576: true; the input reads as it did. -/
def fnWordOfUptoRow : OpenClaim := { program := "ytghkmblclfbfgaa", sum := "7fd1a82d86d8e0877d0c0c99ee33d56cdee5e1d3c4825c42a4bfd2b670a42062", func := "loop.example/liftedcode/laws.FnWordOf", spec := "fnWordOf", apart := false, narrowed := true }
def FnWordOfUptoSaid : Prop := fnWordOfUptoRow.holds Try.pinned (OpenSpec.upto fnWordOfSpec)

/-- 'laws.FnSignedOf', WHERE WHAT IT READS IS OF BULK AT MOST 1048576: true; the input reads as it did. -/
def fnSignedOfUptoRow : OpenClaim := { program := "ytghkmblclfbfgaa", sum := "7fd1a82d86d8e0877d0c0c99ee33d56cdee5e1d3c4825c42a4bfd2b670a42062", func := "loop.example/liftedcode/laws.FnSignedOf", spec := "fnSignedOf", apart := false, narrowed := true }
def FnSignedOfUptoSaid : Prop := fnSignedOfUptoRow.holds Try.pinned (OpenSpec.upto fnSignedOfSpec)

/-- 'laws.FnLowPut', WHERE WHAT IT READS IS OF BULK AT MOST 1048576: true; the input reads as it did. -/
def fnLowPutUptoRow : OpenClaim := { program := "ytghkmblclfbfgaa", sum := "7fd1a82d86d8e0877d0c0c99ee33d56cdee5e1d3c4825c42a4bfd2b670a42062", func := "loop.example/liftedcode/laws.FnLowPut", spec := "fnLowPut", unfollowed := true, recurses := true, apart := false, narrowed := true }
def FnLowPutUptoSaid : Prop := fnLowPutUptoRow.holds Try.pinned (OpenSpec.upto fnLowPutSpec)

/-- 'laws.FnAluDo', WHERE WHAT IT READS IS OF BULK AT MOST 1048576: true; the input reads as it did. -/
def fnAluDoUptoRow : OpenClaim := { program := "ytghkmblclfbfgaa", sum := "7fd1a82d86d8e0877d0c0c99ee33d56cdee5e1d3c4825c42a4bfd2b670a42062", func := "loop.example/liftedcode/laws.FnAluDo", spec := "fnAluDo", unfollowed := true, recurses := true, apart := false, narrowed := true }
def FnAluDoUptoSaid : Prop := fnAluDoUptoRow.holds Try.pinned (OpenSpec.upto fnAluDoSpec)

/-- 'laws.FnFlagsOf', WHERE WHAT IT READS IS OF BULK AT MOST 1048576: true; the input reads as it did. -/
def fnFlagsOfUptoRow : OpenClaim := { program := "ytghkmblclfbfgaa", sum := "7fd1a82d86d8e0877d0c0c99ee33d56cdee5e1d3c4825c42a4bfd2b670a42062", func := "loop.example/liftedcode/laws.FnFlagsOf", spec := "fnFlagsOf", apart := false, narrowed := true }
def FnFlagsOfUptoSaid : Prop := fnFlagsOfUptoRow.holds Try.pinned (OpenSpec.upto fnFlagsOfSpec)

/-- 'laws.FnCondHolds', WHERE WHAT IT READS IS OF BULK AT MOST 1048576: true; the input reads as it did. -/
def fnCondHoldsUptoRow : OpenClaim := { program := "ytghkmblclfbfgaa", sum := "7fd1a82d86d8e0877d0c0c99ee33d56cdee5e1d3c4825c42a4bfd2b670a42062", func := "loop.example/liftedcode/laws.FnCondHolds", spec := "fnCondHolds", apart := false, narrowed := true }
def FnCondHoldsUptoSaid : Prop := fnCondHoldsUptoRow.holds Try.pinned (OpenSpec.upto fnCondHoldsSpec)

/-- 'laws.FnExactWordOf', WHERE WHAT IT READS IS OF BULK AT MOST 1048576: true; the input reads as it did. -/
def fnExactWordOfUptoRow : OpenClaim := { program := "ytghkmblclfbfgaa", sum := "7fd1a82d86d8e0877d0c0c99ee33d56cdee5e1d3c4825c42a4bfd2b670a42062", func := "loop.example/liftedcode/laws.FnExactWordOf", spec := "fnExactWordOf", apart := false, narrowed := true }
def FnExactWordOfUptoSaid : Prop := fnExactWordOfUptoRow.holds Try.pinned (OpenSpec.upto fnExactWordOfSpec)

/-- 'laws.FnExactSignedOf', WHERE WHAT IT READS IS OF BULK AT MOST 1048576: true; the input reads as it did. -/
def fnExactSignedOfUptoRow : OpenClaim := { program := "ytghkmblclfbfgaa", sum := "7fd1a82d86d8e0877d0c0c99ee33d56cdee5e1d3c4825c42a4bfd2b670a42062", func := "loop.example/liftedcode/laws.FnExactSignedOf", spec := "fnExactSignedOf", apart := false, narrowed := true }
def FnExactSignedOfUptoSaid : Prop := fnExactSignedOfUptoRow.holds Try.pinned (OpenSpec.upto fnExactSignedOfSpec)

/-- 'laws.FnExactLowPut', WHERE WHAT IT READS IS OF BULK AT MOST 1048576: true; the input reads as it did. -/
def fnExactLowPutUptoRow : OpenClaim := { program := "ytghkmblclfbfgaa", sum := "7fd1a82d86d8e0877d0c0c99ee33d56cdee5e1d3c4825c42a4bfd2b670a42062", func := "loop.example/liftedcode/laws.FnExactLowPut", spec := "fnExactLowPut", apart := false, narrowed := true }
def FnExactLowPutUptoSaid : Prop := fnExactLowPutUptoRow.holds Try.pinned (OpenSpec.upto fnExactLowPutSpec)

/-- 'laws.FnExactAluDo', WHERE WHAT IT READS IS OF BULK AT MOST 1048576: true; the input reads as it did. -/
def fnExactAluDoUptoRow : OpenClaim := { program := "ytghkmblclfbfgaa", sum := "7fd1a82d86d8e0877d0c0c99ee33d56cdee5e1d3c4825c42a4bfd2b670a42062", func := "loop.example/liftedcode/laws.FnExactAluDo", spec := "fnExactAluDo", unfollowed := true, recurses := true, apart := false, narrowed := true }
def FnExactAluDoUptoSaid : Prop := fnExactAluDoUptoRow.holds Try.pinned (OpenSpec.upto fnExactAluDoSpec)

/-- 'laws.FnExactFlagsOf', WHERE WHAT IT READS IS OF BULK AT MOST 1048576: true; the input reads as it did. -/
def fnExactFlagsOfUptoRow : OpenClaim := { program := "ytghkmblclfbfgaa", sum := "7fd1a82d86d8e0877d0c0c99ee33d56cdee5e1d3c4825c42a4bfd2b670a42062", func := "loop.example/liftedcode/laws.FnExactFlagsOf", spec := "fnExactFlagsOf", apart := false, narrowed := true }
def FnExactFlagsOfUptoSaid : Prop := fnExactFlagsOfUptoRow.holds Try.pinned (OpenSpec.upto fnExactFlagsOfSpec)

/-- 'laws.FnExactCondHolds', WHERE WHAT IT READS IS OF BULK AT MOST 1048576: true; the input reads as it did. -/
def fnExactCondHoldsUptoRow : OpenClaim := { program := "ytghkmblclfbfgaa", sum := "7fd1a82d86d8e0877d0c0c99ee33d56cdee5e1d3c4825c42a4bfd2b670a42062", func := "loop.example/liftedcode/laws.FnExactCondHolds", spec := "fnExactCondHolds", apart := false, narrowed := true }
def FnExactCondHoldsUptoSaid : Prop := fnExactCondHoldsUptoRow.holds Try.pinned (OpenSpec.upto fnExactCondHoldsSpec)

end Rows
end Go.Proofs.Ytghkmblclfbfgaa
