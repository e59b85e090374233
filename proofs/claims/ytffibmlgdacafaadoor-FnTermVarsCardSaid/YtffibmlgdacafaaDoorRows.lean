/-
  NARROWER THAN 'FOR EVERY INPUT', by the rows' own cells (each row's printed sentence says how): FnExactTermFold: loops, laid · FnExactTermRead: laid · FnCondTerm: laid · FnTermVars: laid · FnTermPut: laid.
  DERIVED. THE GIVEN ROWS OF THIS SEAT. 5 by the template 'for every input the law returns true; each argument reads behind the call as it read before'; 0 by the template 'total and deterministic' (their statements: YtffibmlgdacafaaDoorTotals.lean).
  GIVEN WITH THE SEED: the statements are not yours to turn. If you find one false, say at which input.
  Laid BY PROGRAM, IN A SANDBOX (cutbox-rows.mjs): the forced cells as the released guide's own fill.sh prints them over the translation 4b30522aa0e8d63e… (all of the seat's roots in one cut). By AI agents, Wed Nov 11 2026. No macro, syntax, notation, axiom, sorry.
-/
import Derived.Test.YtffibmlgdacafaaDoorChecked
import GoSem.Claim
import GoSem.ClaimJoined
import GoSem.ClaimMapViews
import Derived.JoinedTies
import Derived.KernelRfl
namespace Go.Proofs.YtffibmlgdacafaaDoor
/- THE CELL 'sum', in the pinned program and in every row, IS THE sha256 OF THE DUMP (.gsa) THAT YtffibmlgdacafaaDoorProg.lean LOADS. Nothing in Lean hashes anything: it is a label: what it is worth is what the hold of that sum in a sandbox is worth. -/
noncomputable def Tryd.pinned : Pinned := { name := "ytffibmlgdacafaadoor", sum := "4b30522aa0e8d63e140e7af94ab61f2331ad48fd39166dc32ba68f1e59a1a883", checked := Tryd.checked }
namespace Rows
def none {H : Type} : Left H := { results := [], args := [] }

/- WHAT THE LISTED PACKAGE-LEVEL VARIABLES READ AS WHEN THE CALL BEGINS. Each datum BY PROGRAM (the guide's laid-datum.mjs) off the statement by which the dump's own 'gosem.cut.vars' lays the variable. In a bare row this is a premise. The card (YtffibmlgdacafaaDoorCards.lean) ties it to the program's text. -/
def laid_loop_example_liftedcode_impl_termForms {H : Type} : DataW H := .agg [.agg [.lit (.int .i64 5), .lit (.int .i64 0), .lit (.int .i64 0), .lit (.string []), .lit (.string [])], .agg [.lit (.int .i64 0), .lit (.int .i64 1), .lit (.int .i64 0), .lit (.string []), .lit (.string [])], .agg [.lit (.int .i64 0), .lit (.int .i64 2), .lit (.int .i64 2), .lit (.string [40]), .lit (.string [41])], .agg [.lit (.int .i64 0), .lit (.int .i64 0), .lit (.int .i64 1), .lit (.string [33]), .lit (.string [])], .agg [.lit (.int .i64 0), .lit (.int .i64 0), .lit (.int .i64 1), .lit (.string [119, 111, 114, 100, 91]), .lit (.string [93])], .agg [.lit (.int .i64 0), .lit (.int .i64 0), .lit (.int .i64 1), .lit (.string [98, 121, 116, 101, 91]), .lit (.string [93])]]
def laid_loop_example_liftedcode_impl_operators {H : Type} : DataW H := .agg [.agg [.lit (.string [43]), .lit (.bool false), .lit (.int .i64 0)], .agg [.lit (.string [45]), .lit (.bool false), .lit (.int .i64 1)], .agg [.lit (.string [42]), .lit (.bool false), .lit (.int .i64 2)], .agg [.lit (.string [38]), .lit (.bool false), .lit (.int .i64 3)], .agg [.lit (.string [124]), .lit (.bool false), .lit (.int .i64 4)], .agg [.lit (.string [94]), .lit (.bool false), .lit (.int .i64 5)], .agg [.lit (.string [61, 61]), .lit (.bool true), .lit (.int .i64 0)], .agg [.lit (.string [60]), .lit (.bool true), .lit (.int .i64 2)], .agg [.lit (.string [60, 60]), .lit (.bool true), .lit (.int .i64 4)]]
def laid_math_bits_deBruijn32tab {H : Type} : DataW H := .agg [.lit (.int .u8 0), .lit (.int .u8 1), .lit (.int .u8 28), .lit (.int .u8 2), .lit (.int .u8 29), .lit (.int .u8 14), .lit (.int .u8 24), .lit (.int .u8 3), .lit (.int .u8 30), .lit (.int .u8 22), .lit (.int .u8 20), .lit (.int .u8 15), .lit (.int .u8 25), .lit (.int .u8 17), .lit (.int .u8 4), .lit (.int .u8 8), .lit (.int .u8 31), .lit (.int .u8 27), .lit (.int .u8 13), .lit (.int .u8 23), .lit (.int .u8 21), .lit (.int .u8 19), .lit (.int .u8 16), .lit (.int .u8 7), .lit (.int .u8 26), .lit (.int .u8 12), .lit (.int .u8 18), .lit (.int .u8 6), .lit (.int .u8 11), .lit (.int .u8 5), .lit (.int .u8 10), .lit (.int .u8 9)]
def laid_math_bits_deBruijn64tab {H : Type} : DataW H := .agg [.lit (.int .u8 0), .lit (.int .u8 1), .lit (.int .u8 56), .lit (.int .u8 2), .lit (.int .u8 57), .lit (.int .u8 49), .lit (.int .u8 28), .lit (.int .u8 3), .lit (.int .u8 61), .lit (.int .u8 58), .lit (.int .u8 42), .lit (.int .u8 50), .lit (.int .u8 38), .lit (.int .u8 29), .lit (.int .u8 17), .lit (.int .u8 4), .lit (.int .u8 62), .lit (.int .u8 47), .lit (.int .u8 59), .lit (.int .u8 36), .lit (.int .u8 45), .lit (.int .u8 43), .lit (.int .u8 51), .lit (.int .u8 22), .lit (.int .u8 53), .lit (.int .u8 39), .lit (.int .u8 33), .lit (.int .u8 30), .lit (.int .u8 24), .lit (.int .u8 18), .lit (.int .u8 12), .lit (.int .u8 5), .lit (.int .u8 63), .lit (.int .u8 55), .lit (.int .u8 48), .lit (.int .u8 27), .lit (.int .u8 60), .lit (.int .u8 41), .lit (.int .u8 37), .lit (.int .u8 16), .lit (.int .u8 46), .lit (.int .u8 35), .lit (.int .u8 44), .lit (.int .u8 21), .lit (.int .u8 52), .lit (.int .u8 32), .lit (.int .u8 23), .lit (.int .u8 11), .lit (.int .u8 54), .lit (.int .u8 26), .lit (.int .u8 40), .lit (.int .u8 15), .lit (.int .u8 34), .lit (.int .u8 20), .lit (.int .u8 31), .lit (.int .u8 10), .lit (.int .u8 25), .lit (.int .u8 14), .lit (.int .u8 19), .lit (.int .u8 9), .lit (.int .u8 13), .lit (.int .u8 8), .lit (.int .u8 7), .lit (.int .u8 6)]
def laid_internal_strconv_uint64pow10 {H : Type} : DataW H := .agg [.lit (.int .u64 1), .lit (.int .u64 10), .lit (.int .u64 100), .lit (.int .u64 1000), .lit (.int .u64 10000), .lit (.int .u64 100000), .lit (.int .u64 1000000), .lit (.int .u64 10000000), .lit (.int .u64 100000000), .lit (.int .u64 1000000000), .lit (.int .u64 10000000000), .lit (.int .u64 100000000000), .lit (.int .u64 1000000000000), .lit (.int .u64 10000000000000), .lit (.int .u64 100000000000000), .lit (.int .u64 1000000000000000), .lit (.int .u64 10000000000000000), .lit (.int .u64 100000000000000000), .lit (.int .u64 1000000000000000000), .lit (.int .u64 10000000000000000000)]
def laid_strconv_ErrRange {H : Type} : DataW H := .iface "*errors.errorString" (.ptr (.agg [.lit (.string [118, 97, 108, 117, 101, 32, 111, 117, 116, 32, 111, 102, 32, 114, 97, 110, 103, 101])]))
def laid_strconv_ErrSyntax {H : Type} : DataW H := .iface "*errors.errorString" (.ptr (.agg [.lit (.string [105, 110, 118, 97, 108, 105, 100, 32, 115, 121, 110, 116, 97, 120])]))

/-- 'laws.FnExactTermFold': WHATEVER THE INPUT: true; the input reads as it did. -/
def fnExactTermFoldSpec : ChangeSpec := { name := "fnExactTermFold", vars := ["loop.example/liftedcode/impl.termForms", "loop.example/liftedcode/impl.operators"], fn := fun _ => fun
  | [d, g1, g2] => { results := [.lit (.bool true)], args := [d], vars := [g1, g2] }
  | _ => none }
def fnExactTermFoldRow : OpenClaim := { program := "ytffibmlgdacafaadoor", sum := "4b30522aa0e8d63e140e7af94ab61f2331ad48fd39166dc32ba68f1e59a1a883", func := "loop.example/liftedcode/laws.FnExactTermFold", spec := "fnExactTermFold", unfollowed := true, recurses := true, named := ["loop.example/liftedcode/impl.termForms", "loop.example/liftedcode/impl.operators"], loops := true, apart := false, laid := [("loop.example/liftedcode/impl.termForms", laid_loop_example_liftedcode_impl_termForms), ("loop.example/liftedcode/impl.operators", laid_loop_example_liftedcode_impl_operators)] }
def FnExactTermFoldSaid : Prop := fnExactTermFoldRow.holds Tryd.pinned (OpenSpec.ofChange fnExactTermFoldSpec)

/-- ITS FALSE NEIGHBOUR: 'it returns false'. Refute it at one input. -/
def fnExactTermFoldWrong : ChangeSpec := { name := "fnExactTermFold", vars := ["loop.example/liftedcode/impl.termForms", "loop.example/liftedcode/impl.operators"], fn := fun _ => fun
  | [d, g1, g2] => { results := [.lit (.bool false)], args := [d], vars := [g1, g2] }
  | _ => none }
def FnExactTermFoldWrongFalsely : Prop := fnExactTermFoldRow.holds Tryd.pinned (OpenSpec.ofChange fnExactTermFoldWrong)

/-- 'laws.FnExactTermRead': WHATEVER THE INPUT: true; the input reads as it did. -/
def fnExactTermReadSpec : ChangeSpec := { name := "fnExactTermRead", vars := ["loop.example/liftedcode/impl.termForms", "loop.example/liftedcode/impl.operators"], fn := fun _ => fun
  | [d, g1, g2] => { results := [.lit (.bool true)], args := [d], vars := [g1, g2] }
  | _ => none }
def fnExactTermReadRow : OpenClaim := { program := "ytffibmlgdacafaadoor", sum := "4b30522aa0e8d63e140e7af94ab61f2331ad48fd39166dc32ba68f1e59a1a883", func := "loop.example/liftedcode/laws.FnExactTermRead", spec := "fnExactTermRead", inPlace := ["internal/abi.NoEscape", "internal/bytealg.MakeNoZero"], unfollowed := true, recurses := true, named := ["loop.example/liftedcode/impl.termForms", "loop.example/liftedcode/impl.operators", "strconv.ErrSyntax", "strconv.ErrRange", "internal/strconv.uint64pow10", "math/bits.deBruijn32tab", "math/bits.deBruijn64tab"], apart := false, laid := [("math/bits.deBruijn32tab", laid_math_bits_deBruijn32tab), ("math/bits.deBruijn64tab", laid_math_bits_deBruijn64tab), ("internal/strconv.uint64pow10", laid_internal_strconv_uint64pow10), ("strconv.ErrRange", laid_strconv_ErrRange), ("strconv.ErrSyntax", laid_strconv_ErrSyntax), ("loop.example/liftedcode/impl.termForms", laid_loop_example_liftedcode_impl_termForms), ("loop.example/liftedcode/impl.operators", laid_loop_example_liftedcode_impl_operators)] }
def FnExactTermReadSaid : Prop := fnExactTermReadRow.holds Tryd.pinned (OpenSpec.ofChange fnExactTermReadSpec)

/-- ITS FALSE NEIGHBOUR: 'it returns false'. Refute it at one input. -/
def fnExactTermReadWrong : ChangeSpec := { name := "fnExactTermRead", vars := ["loop.example/liftedcode/impl.termForms", "loop.example/liftedcode/impl.operators"], fn := fun _ => fun
  | [d, g1, g2] => { results := [.lit (.bool false)], args := [d], vars := [g1, g2] }
  | _ => none }
def FnExactTermReadWrongFalsely : Prop := fnExactTermReadRow.holds Tryd.pinned (OpenSpec.ofChange fnExactTermReadWrong)

/-- 'laws.FnCondTerm': WHATEVER THE INPUT: true; the input reads as it did. -/
def fnCondTermSpec : ChangeSpec := { name := "fnCondTerm", vars := ["loop.example/liftedcode/impl.operators", "loop.example/liftedcode/impl.termForms"], fn := fun _ => fun
  | [d, g1, g2] => { results := [.lit (.bool true)], args := [d], vars := [g1, g2] }
  | _ => none }
def fnCondTermRow : OpenClaim := { program := "ytffibmlgdacafaadoor", sum := "4b30522aa0e8d63e140e7af94ab61f2331ad48fd39166dc32ba68f1e59a1a883", func := "loop.example/liftedcode/laws.FnCondTerm", spec := "fnCondTerm", unfollowed := true, recurses := true, named := ["loop.example/liftedcode/impl.operators", "loop.example/liftedcode/impl.termForms"], apart := false, laid := [("loop.example/liftedcode/impl.termForms", laid_loop_example_liftedcode_impl_termForms), ("loop.example/liftedcode/impl.operators", laid_loop_example_liftedcode_impl_operators)] }
def FnCondTermSaid : Prop := fnCondTermRow.holds Tryd.pinned (OpenSpec.ofChange fnCondTermSpec)

/-- ITS FALSE NEIGHBOUR: 'it returns false'. Refute it at one input. -/
def fnCondTermWrong : ChangeSpec := { name := "fnCondTerm", vars := ["loop.example/liftedcode/impl.operators", "loop.example/liftedcode/impl.termForms"], fn := fun _ => fun
  | [d, g1, g2] => { results := [.lit (.bool false)], args := [d], vars := [g1, g2] }
  | _ => none }
def FnCondTermWrongFalsely : Prop := fnCondTermRow.holds Tryd.pinned (OpenSpec.ofChange fnCondTermWrong)

/-- 'laws.FnTermVars': WHATEVER THE INPUT: true; the input reads as it did. -/
def fnTermVarsSpec : ChangeSpec := { name := "fnTermVars", vars := ["loop.example/liftedcode/impl.termForms", "loop.example/liftedcode/impl.operators"], fn := fun _ => fun
  | [d, g1, g2] => { results := [.lit (.bool true)], args := [d], vars := [g1, g2] }
  | _ => none }
def fnTermVarsRow : OpenClaim := { program := "ytffibmlgdacafaadoor", sum := "4b30522aa0e8d63e140e7af94ab61f2331ad48fd39166dc32ba68f1e59a1a883", func := "loop.example/liftedcode/laws.FnTermVars", spec := "fnTermVars", unfollowed := true, recurses := true, named := ["loop.example/liftedcode/impl.termForms", "loop.example/liftedcode/impl.operators"], apart := false, laid := [("loop.example/liftedcode/impl.termForms", laid_loop_example_liftedcode_impl_termForms), ("loop.example/liftedcode/impl.operators", laid_loop_example_liftedcode_impl_operators)] }
def FnTermVarsSaid : Prop := fnTermVarsRow.holds Tryd.pinned (OpenSpec.ofChange fnTermVarsSpec)

/-- ITS FALSE NEIGHBOUR: 'it returns false'. Refute it at one input. -/
def fnTermVarsWrong : ChangeSpec := { name := "fnTermVars", vars := ["loop.example/liftedcode/impl.termForms", "loop.example/liftedcode/impl.operators"], fn := fun _ => fun
  | [d, g1, g2] => { results := [.lit (.bool false)], args := [d], vars := [g1, g2] }
  | _ => none }
def FnTermVarsWrongFalsely : Prop := fnTermVarsRow.holds Tryd.pinned (OpenSpec.ofChange fnTermVarsWrong)

/-- 'laws.FnTermPut': WHATEVER THE INPUT: true; the input reads as it did. -/
def fnTermPutSpec : ChangeSpec := { name := "fnTermPut", vars := ["loop.example/liftedcode/impl.termForms", "loop.example/liftedcode/impl.operators"], fn := fun _ => fun
  | [d, g1, g2] => { results := [.lit (.bool true)], args := [d], vars := [g1, g2] }
  | _ => none }
def fnTermPutRow : OpenClaim := { program := "ytffibmlgdacafaadoor", sum := "4b30522aa0e8d63e140e7af94ab61f2331ad48fd39166dc32ba68f1e59a1a883", func := "loop.example/liftedcode/laws.FnTermPut", spec := "fnTermPut", unfollowed := true, recurses := true, named := ["loop.example/liftedcode/impl.termForms", "loop.example/liftedcode/impl.operators"], apart := false, laid := [("loop.example/liftedcode/impl.termForms", laid_loop_example_liftedcode_impl_termForms), ("loop.example/liftedcode/impl.operators", laid_loop_example_liftedcode_impl_operators)] }
def FnTermPutSaid : Prop := fnTermPutRow.holds Tryd.pinned (OpenSpec.ofChange fnTermPutSpec)

/-- ITS FALSE NEIGHBOUR: 'it returns false'. Refute it at one input. -/
def fnTermPutWrong : ChangeSpec := { name := "fnTermPut", vars := ["loop.example/liftedcode/impl.termForms", "loop.example/liftedcode/impl.operators"], fn := fun _ => fun
  | [d, g1, g2] => { results := [.lit (.bool false)], args := [d], vars := [g1, g2] }
  | _ => none }
def FnTermPutWrongFalsely : Prop := fnTermPutRow.holds Tryd.pinned (OpenSpec.ofChange fnTermPutWrong)

/- THE SECOND FORM. 'bulk': how many values and letters a reading holds, each counted each time it is reached (what is shared counts as often as it is met; a slice's spare places count too). A statement '..UptoSaid' is the law's where the arguments, and the package variables that the reading takes, are together of bulk at most 1048576: NARROWER than '..Said'. Prove '..Said' where nothing that the law and all that it calls make is longer than what came in: it says more and counts as full. Else prove '..UptoSaid'. A law counts once. -/
mutual
def uptoBulk {H : Type} : DataW H → Nat
  | .lit (.string bytes) => bytes.length + 1
  | .lit _ => 1
  | .nil => 1
  | .ptr d => uptoBulk d + 1
  | .slice elems spare => uptoBulkAll elems + uptoBulkAll spare + 1
  | .agg parts => uptoBulkAll parts + 1
  | .iface _ d => uptoBulk d + 1
  | .map entries => uptoBulkEntries entries + 1
  | .held _ => 1
def uptoBulkAll {H : Type} : List (DataW H) → Nat
  | [] => 0
  | d :: r => uptoBulk d + uptoBulkAll r
def uptoBulkEntries {H : Type} : List (Lit × DataW H) → Nat
  | [] => 0
  | x :: r => uptoBulkEntry x + uptoBulkEntries r
def uptoBulkEntry {H : Type} : Lit × DataW H → Nat
  | (.string bytes, d) => bytes.length + uptoBulk d + 1
  | (_, d) => uptoBulk d + 1
 end
def uptoSmall : (H : Type) → List (DataW H) → Bool := fun _ ds => decide (uptoBulkAll ds ≤ 1048576)
def OpenSpec.upto (s : _root_.Go.ChangeSpec) : _root_.Go.OpenSpec := { _root_.Go.OpenSpec.ofChange s with cond := some uptoSmall }

/-- 'laws.FnExactTermFold', WHERE WHAT IT READS IS OF BULK AT MOST 1048576: true; the input reads as it did. -/
def fnExactTermFoldUptoRow : OpenClaim := { program := "ytffibmlgdacafaadoor", sum := "4b30522aa0e8d63e140e7af94ab61f2331ad48fd39166dc32ba68f1e59a1a883", func := "loop.example/liftedcode/laws.FnExactTermFold", spec := "fnExactTermFold", unfollowed := true, recurses := true, named := ["loop.example/liftedcode/impl.termForms", "loop.example/liftedcode/impl.operators"], loops := true, apart := false, laid := [("loop.example/liftedcode/impl.termForms", laid_loop_example_liftedcode_impl_termForms), ("loop.example/liftedcode/impl.operators", laid_loop_example_liftedcode_impl_operators)], narrowed := true }
def FnExactTermFoldUptoSaid : Prop := fnExactTermFoldUptoRow.holds Tryd.pinned (OpenSpec.upto fnExactTermFoldSpec)

/-- 'laws.FnExactTermRead', WHERE WHAT IT READS IS OF BULK AT MOST 1048576: true; the input reads as it did. -/
def fnExactTermReadUptoRow : OpenClaim := { program := "ytffibmlgdacafaadoor", sum := "4b30522aa0e8d63e140e7af94ab61f2331ad48fd39166dc32ba68f1e59a1a883", func := "loop.example/liftedcode/laws.FnExactTermRead", spec := "fnExactTermRead", inPlace := ["internal/abi.NoEscape", "internal/bytealg.MakeNoZero"], unfollowed := true, recurses := true, named := ["loop.example/liftedcode/impl.termForms", "loop.example/liftedcode/impl.operators", "strconv.ErrSyntax", "strconv.ErrRange", "internal/strconv.uint64pow10", "math/bits.deBruijn32tab", "math/bits.deBruijn64tab"], apart := false, laid := [("math/bits.deBruijn32tab", laid_math_bits_deBruijn32tab), ("math/bits.deBruijn64tab", laid_math_bits_deBruijn64tab), ("internal/strconv.uint64pow10", laid_internal_strconv_uint64pow10), ("strconv.ErrRange", laid_strconv_ErrRange), ("strconv.ErrSyntax", laid_strconv_ErrSyntax), ("loop.example/liftedcode/impl.termForms", laid_loop_example_liftedcode_impl_termForms), ("loop.example/liftedcode/impl.operators", laid_loop_example_liftedcode_impl_operators)], narrowed := true }
def FnExactTermReadUptoSaid : Prop := fnExactTermReadUptoRow.holds Tryd.pinned (OpenSpec.upto fnExactTermReadSpec)

/-- 'laws.FnCondTerm', WHERE WHAT IT READS IS OF BULK AT MOST 1048576: true; the input reads as it did. -/
def fnCondTermUptoRow : OpenClaim := { program := "ytffibmlgdacafaadoor", sum := "4b30522aa0e8d63e140e7af94ab61f2331ad48fd39166dc32ba68f1e59a1a883", func := "loop.example/liftedcode/laws.FnCondTerm", spec := "fnCondTerm", unfollowed := true, recurses := true, named := ["loop.example/liftedcode/impl.operators", "loop.example/liftedcode/impl.termForms"], apart := false, laid := [("loop.example/liftedcode/impl.termForms", laid_loop_example_liftedcode_impl_termForms), ("loop.example/liftedcode/impl.operators", laid_loop_example_liftedcode_impl_operators)], narrowed := true }
def FnCondTermUptoSaid : Prop := fnCondTermUptoRow.holds Tryd.pinned (OpenSpec.upto fnCondTermSpec)

/-- 'laws.FnTermVars', WHERE WHAT IT READS IS OF BULK AT MOST 1048576: true; the input reads as it did. -/
def fnTermVarsUptoRow : OpenClaim := { program := "ytffibmlgdacafaadoor", sum := "4b30522aa0e8d63e140e7af94ab61f2331ad48fd39166dc32ba68f1e59a1a883", func := "loop.example/liftedcode/laws.FnTermVars", spec := "fnTermVars", unfollowed := true, recurses := true, named := ["loop.example/liftedcode/impl.termForms", "loop.example/liftedcode/impl.operators"], apart := false, laid := [("loop.example/liftedcode/impl.termForms", laid_loop_example_liftedcode_impl_termForms), ("loop.example/liftedcode/impl.operators", laid_loop_example_liftedcode_impl_operators)], narrowed := true }
def FnTermVarsUptoSaid : Prop := fnTermVarsUptoRow.holds Tryd.pinned (OpenSpec.upto fnTermVarsSpec)

/-- 'laws.FnTermPut', WHERE WHAT IT READS IS OF BULK AT MOST 1048576: true; the input reads as it did. -/
def fnTermPutUptoRow : OpenClaim := { program := "ytffibmlgdacafaadoor", sum := "4b30522aa0e8d63e140e7af94ab61f2331ad48fd39166dc32ba68f1e59a1a883", func := "loop.example/liftedcode/laws.FnTermPut", spec := "fnTermPut", unfollowed := true, recurses := true, named := ["loop.example/liftedcode/impl.termForms", "loop.example/liftedcode/impl.operators"], apart := false, laid := [("loop.example/liftedcode/impl.termForms", laid_loop_example_liftedcode_impl_termForms), ("loop.example/liftedcode/impl.operators", laid_loop_example_liftedcode_impl_operators)], narrowed := true }
def FnTermPutUptoSaid : Prop := fnTermPutUptoRow.holds Tryd.pinned (OpenSpec.upto fnTermPutSpec)

end Rows
end Go.Proofs.YtffibmlgdacafaaDoor
