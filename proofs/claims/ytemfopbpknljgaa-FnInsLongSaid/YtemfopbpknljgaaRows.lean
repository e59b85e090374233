/-
  No cell of these rows narrows 'for every input' (looked for: loops, veiled, ifaces, maps, wideKeys, modest, calm, conditions, laid).
  DERIVED. THE GIVEN ROWS OF THIS SEAT. 8 by the template 'for every input the law returns true; each argument reads behind the call as it read before'; 0 by the template 'total and deterministic' (their statements: YtemfopbpknljgaaTotals.lean).
  GIVEN WITH THE SEED: the statements are not yours to turn. If you find one false, say at which input.
  Laid BY PROGRAM, IN A SANDBOX (cutbox-rows.mjs): the forced cells as the released guide's own fill.sh prints them over the translation ecdb7282807427b2… (all of the seat's roots in one cut). By AI agents, Wed Nov 11 2026. No macro, syntax, notation, axiom, sorry.
-/
import Derived.Test.YtemfopbpknljgaaChecked
import GoSem.Claim
import GoSem.ClaimJoined
import GoSem.ClaimMapViews
import Derived.JoinedTies
import Derived.KernelRfl
namespace Go.Proofs.Ytemfopbpknljgaa
/- THE CELL 'sum', in the pinned program and in every row, IS THE sha256 OF THE DUMP (.gsa) THAT YtemfopbpknljgaaProg.lean LOADS. Nothing in Lean hashes anything: it is a label: what it is worth is what the hold of that sum in a sandbox is worth. -/
noncomputable def Try.pinned : Pinned := { name := "ytemfopbpknljgaa", sum := "ecdb7282807427b2a91752bdf277addec1d7d78896eba4208155ffdaccec5b75", checked := Try.checked }
namespace Rows
def none {H : Type} : Left H := { results := [], args := [] }

/-- 'laws.FnInsOk': WHATEVER THE INPUT: true; the input reads as it did. -/
def fnInsOkSpec : ChangeSpec := { name := "fnInsOk", fn := fun _ => fun
  | [d] => { results := [.lit (.bool true)], args := [d] }
  | _ => none }
def fnInsOkRow : OpenClaim := { program := "ytemfopbpknljgaa", sum := "ecdb7282807427b2a91752bdf277addec1d7d78896eba4208155ffdaccec5b75", func := "loop.example/liftedcode/laws.FnInsOk", spec := "fnInsOk", unfollowed := true, recurses := true, apart := false }
def FnInsOkSaid : Prop := fnInsOkRow.holds Try.pinned (OpenSpec.ofChange fnInsOkSpec)

/-- ITS FALSE NEIGHBOUR: 'it returns false'. Refute it at one input. -/
def fnInsOkWrong : ChangeSpec := { name := "fnInsOk", fn := fun _ => fun
  | [d] => { results := [.lit (.bool false)], args := [d] }
  | _ => none }
def FnInsOkWrongFalsely : Prop := fnInsOkRow.holds Try.pinned (OpenSpec.ofChange fnInsOkWrong)

/-- 'laws.FnInsLong': WHATEVER THE INPUT: true; the input reads as it did. -/
def fnInsLongSpec : ChangeSpec := { name := "fnInsLong", fn := fun _ => fun
  | [d] => { results := [.lit (.bool true)], args := [d] }
  | _ => none }
def fnInsLongRow : OpenClaim := { program := "ytemfopbpknljgaa", sum := "ecdb7282807427b2a91752bdf277addec1d7d78896eba4208155ffdaccec5b75", func := "loop.example/liftedcode/laws.FnInsLong", spec := "fnInsLong", unfollowed := true, recurses := true, apart := false }
def FnInsLongSaid : Prop := fnInsLongRow.holds Try.pinned (OpenSpec.ofChange fnInsLongSpec)

/-- ITS FALSE NEIGHBOUR: 'it returns false'. Refute it at one input. -/
def fnInsLongWrong : ChangeSpec := { name := "fnInsLong", fn := fun _ => fun
  | [d] => { results := [.lit (.bool false)], args := [d] }
  | _ => none }
def FnInsLongWrongFalsely : Prop := fnInsLongRow.holds Try.pinned (OpenSpec.ofChange fnInsLongWrong)

/-- 'laws.FnInsPut': WHATEVER THE INPUT: true; the input reads as it did. -/
def fnInsPutSpec : ChangeSpec := { name := "fnInsPut", fn := fun _ => fun
  | [d] => { results := [.lit (.bool true)], args := [d] }
  | _ => none }
def fnInsPutRow : OpenClaim := { program := "ytemfopbpknljgaa", sum := "ecdb7282807427b2a91752bdf277addec1d7d78896eba4208155ffdaccec5b75", func := "loop.example/liftedcode/laws.FnInsPut", spec := "fnInsPut", unfollowed := true, recurses := true, apart := false }
def FnInsPutSaid : Prop := fnInsPutRow.holds Try.pinned (OpenSpec.ofChange fnInsPutSpec)

/-- ITS FALSE NEIGHBOUR: 'it returns false'. Refute it at one input. -/
def fnInsPutWrong : ChangeSpec := { name := "fnInsPut", fn := fun _ => fun
  | [d] => { results := [.lit (.bool false)], args := [d] }
  | _ => none }
def FnInsPutWrongFalsely : Prop := fnInsPutRow.holds Try.pinned (OpenSpec.ofChange fnInsPutWrong)

/-- 'laws.FnInsAt': WHATEVER THE INPUT: true; the input reads as it did. -/
def fnInsAtSpec : ChangeSpec := { name := "fnInsAt", fn := fun _ => fun
  | [d] => { results := [.lit (.bool true)], args := [d] }
  | _ => none }
def fnInsAtRow : OpenClaim := { program := "ytemfopbpknljgaa", sum := "ecdb7282807427b2a91752bdf277addec1d7d78896eba4208155ffdaccec5b75", func := "loop.example/liftedcode/laws.FnInsAt", spec := "fnInsAt", unfollowed := true, recurses := true, apart := false }
def FnInsAtSaid : Prop := fnInsAtRow.holds Try.pinned (OpenSpec.ofChange fnInsAtSpec)

/-- ITS FALSE NEIGHBOUR: 'it returns false'. Refute it at one input. -/
def fnInsAtWrong : ChangeSpec := { name := "fnInsAt", fn := fun _ => fun
  | [d] => { results := [.lit (.bool false)], args := [d] }
  | _ => none }
def FnInsAtWrongFalsely : Prop := fnInsAtRow.holds Try.pinned (OpenSpec.ofChange fnInsAtWrong)

/-- 'laws.FnExactInsOk': WHATEVER THE INPUT: true; the input reads as it did. -/
def fnExactInsOkSpec : ChangeSpec := { name := "fnExactInsOk", fn := fun _ => fun
  | [d] => { results := [.lit (.bool true)], args := [d] }
  | _ => none }
def fnExactInsOkRow : OpenClaim := { program := "ytemfopbpknljgaa", sum := "ecdb7282807427b2a91752bdf277addec1d7d78896eba4208155ffdaccec5b75", func := "loop.example/liftedcode/laws.FnExactInsOk", spec := "fnExactInsOk", apart := false }
def FnExactInsOkSaid : Prop := fnExactInsOkRow.holds Try.pinned (OpenSpec.ofChange fnExactInsOkSpec)

/-- ITS FALSE NEIGHBOUR: 'it returns false'. Refute it at one input. -/
def fnExactInsOkWrong : ChangeSpec := { name := "fnExactInsOk", fn := fun _ => fun
  | [d] => { results := [.lit (.bool false)], args := [d] }
  | _ => none }
def FnExactInsOkWrongFalsely : Prop := fnExactInsOkRow.holds Try.pinned (OpenSpec.ofChange fnExactInsOkWrong)

/-- 'laws.FnExactInsLong': WHATEVER THE INPUT: true; the input reads as it did. -/
def fnExactInsLongSpec : ChangeSpec := { name := "fnExactInsLong", fn := fun _ => fun
  | [d] => { results := [.lit (.bool true)], args := [d] }
  | _ => none }
def fnExactInsLongRow : OpenClaim := { program := "ytemfopbpknljgaa", sum := "ecdb7282807427b2a91752bdf277addec1d7d78896eba4208155ffdaccec5b75", func := "loop.example/liftedcode/laws.FnExactInsLong", spec := "fnExactInsLong", unfollowed := true, recurses := true, apart := false }
def FnExactInsLongSaid : Prop := fnExactInsLongRow.holds Try.pinned (OpenSpec.ofChange fnExactInsLongSpec)

/-- ITS FALSE NEIGHBOUR: 'it returns false'. Refute it at one input. -/
def fnExactInsLongWrong : ChangeSpec := { name := "fnExactInsLong", fn := fun _ => fun
  | [d] => { results := [.lit (.bool false)], args := [d] }
  | _ => none }
def FnExactInsLongWrongFalsely : Prop := fnExactInsLongRow.holds Try.pinned (OpenSpec.ofChange fnExactInsLongWrong)

/-- 'laws.FnExactInsPut': WHATEVER THE INPUT: true; the input reads as it did. -/
def fnExactInsPutSpec : ChangeSpec := { name := "fnExactInsPut", fn := fun _ => fun
  | [d1, d2] => { results := [.lit (.bool true)], args := [d1, d2] }
  | _ => none }
def fnExactInsPutRow : OpenClaim := { program := "ytemfopbpknljgaa", sum := "ecdb7282807427b2a91752bdf277addec1d7d78896eba4208155ffdaccec5b75", func := "loop.example/liftedcode/laws.FnExactInsPut", spec := "fnExactInsPut", unfollowed := true, recurses := true, apart := false }
def FnExactInsPutSaid : Prop := fnExactInsPutRow.holds Try.pinned (OpenSpec.ofChange fnExactInsPutSpec)

/-- ITS FALSE NEIGHBOUR: 'it returns false'. Refute it at one input. -/
def fnExactInsPutWrong : ChangeSpec := { name := "fnExactInsPut", fn := fun _ => fun
  | [d1, d2] => { results := [.lit (.bool false)], args := [d1, d2] }
  | _ => none }
def FnExactInsPutWrongFalsely : Prop := fnExactInsPutRow.holds Try.pinned (OpenSpec.ofChange fnExactInsPutWrong)

/-- 'laws.FnExactInsAt': WHATEVER THE INPUT: true; the input reads as it did. -/
def fnExactInsAtSpec : ChangeSpec := { name := "fnExactInsAt", fn := fun _ => fun
  | [d1, d2] => { results := [.lit (.bool true)], args := [d1, d2] }
  | _ => none }
def fnExactInsAtRow : OpenClaim := { program := "ytemfopbpknljgaa", sum := "ecdb7282807427b2a91752bdf277addec1d7d78896eba4208155ffdaccec5b75", func := "loop.example/liftedcode/laws.FnExactInsAt", spec := "fnExactInsAt", unfollowed := true, recurses := true, apart := false }
def FnExactInsAtSaid : Prop := fnExactInsAtRow.holds Try.pinned (OpenSpec.ofChange fnExactInsAtSpec)

/-- ITS FALSE NEIGHBOUR: 'it returns false'. Refute it at one input. -/
def fnExactInsAtWrong : ChangeSpec := { name := "fnExactInsAt", fn := fun _ => fun
  | [d1, d2] => { results := [.lit (.bool false)], args := [d1, d2] }
  | _ => none }
def FnExactInsAtWrongFalsely : Prop := fnExactInsAtRow.holds Try.pinned (OpenSpec.ofChange fnExactInsAtWrong)

/- THE SECOND FORM. 'bulk': how many values and letters a reading holds, each counted each time it is reached (what is shared counts as often as it is met; a slice's spare places count too). A statement '..UptoSaid' is the law's where the arguments, and the package variables that the reading takes, are together of bulk at most 1048576: NARROWER than '..Said'. Prove '..Said' where nothing that the law and all that it calls make is longer than what came in: it says more and counts as full. Else prove '..UptoSaid'. A law counts once. -/
mutual
def uptoBulk {H : Type} : DataW H → Nat
  | .lit (.string bytes) => bytes.length + 1
  | .lit _ => 1
  | .nil => 1
  | .ptr d => uptoBulk d + 1
  | .slice elems spare => uptoBulkAll elems + uptoBulkAll spare + 1
  | .agg parts => uptoBulkAll parts + 1
  | .iface _ d => uptoBulk d + 1
  | .map entries => uptoBulkEntries entries + 1
  | .held _ => 1
def uptoBulkAll {H : Type} : List (DataW H) → Nat
  | [] => 0
  | d :: r => uptoBulk d + uptoBulkAll r
def uptoBulkEntries {H : Type} : List (Lit × DataW H) → Nat
  | [] => 0
  | x :: r => uptoBulkEntry x + uptoBulkEntries r
def uptoBulkEntry {H : Type} : Lit × DataW H → Nat
  | (.string bytes, d) => bytes.length + uptoBulk d + 1
  | (_, d) => uptoBulk d + 1
 end
def uptoSmall : (H : Type) → List (DataW H) → Bool := fun _ ds => decide (uptoBulkAll ds ≤ 1048576)
def OpenSpec.upto (s : _root_.Go.ChangeSpec) : _root_.Go.OpenSpec := { _root_.Go.OpenSpec.ofChange s with cond := some uptoSmall }

/-- 'laws.FnInsOk', WHERE WHAT IT READS IS OF BULK AT MOST 1048576: true; the input reads as it did. -/
def fnInsOkUptoRow : OpenClaim := { program := "ytemfopbpknljgaa", sum := "ecdb7282807427b2a91752bdf277addec1d7d78896eba4208155ffdaccec5b75", func := "loop.example/liftedcode/laws.FnInsOk", spec := "fnInsOk", unfollowed := true, recurses := true, apart := false, narrowed := true }
def FnInsOkUptoSaid : Prop := fnInsOkUptoRow.holds Try.pinned (OpenSpec.upto fnInsOkSpec)

/-- 'laws.FnInsLong', WHERE WHAT IT READS IS OF BULK AT MOST 1048576: true; the input reads as it did. -/
def fnInsLongUptoRow : OpenClaim := { program := "ytemfopbpknljgaa", sum := "ecdb7282807427b2a91752bdf277addec1d7d78896eba4208155ffdaccec5b75", func := "loop.example/liftedcode/laws.FnInsLong", spec := "fnInsLong", unfollowed := true, recurses := true, apart := false, narrowed := true }
def FnInsLongUptoSaid : Prop := fnInsLongUptoRow.holds Try.pinned (OpenSpec.upto fnInsLongSpec)

/-- 'laws.FnInsPut', WHERE WHAT IT READS IS OF BULK AT MOST 1048576: true; the input reads as it did. -/
def fnInsPutUptoRow : OpenClaim := { program := "ytemfopbpknljgaa", sum := "ecdb7282807427b2a91752bdf277addec1d7d78896eba4208155ffdaccec5b75", func := "loop.example/liftedcode/laws.FnInsPut", spec := "fnInsPut", unfollowed := true, recurses := true, apart := false, narrowed := true }
def FnInsPutUptoSaid : Prop := fnInsPutUptoRow.holds Try.pinned (OpenSpec.upto fnInsPutSpec)

/-- 'laws.FnInsAt', WHERE WHAT IT READS IS OF BULK AT MOST 1048576: true; the input reads as it did. -/
def fnInsAtUptoRow : OpenClaim := { program := "ytemfopbpknljgaa", sum := "ecdb7282807427b2a91752bdf277addec1d7d78896eba4208155ffdaccec5b75", func := "loop.example/liftedcode/laws.FnInsAt", spec := "fnInsAt", unfollowed := true, recurses := true, apart := false, narrowed := true }
def FnInsAtUptoSaid : Prop := fnInsAtUptoRow.holds Try.pinned (OpenSpec.upto fnInsAtSpec)

/-- 'laws.FnExactInsOk', WHERE WHAT IT READS IS OF BULK AT MOST 1048576: true; the input reads as it did. -/
def fnExactInsOkUptoRow : OpenClaim := { program := "ytemfopbpknljgaa", sum := "ecdb7282807427b2a91752bdf277addec1d7d78896eba4208155ffdaccec5b75", func := "loop.example/liftedcode/laws.FnExactInsOk", spec := "fnExactInsOk", apart := false, narrowed := true }
def FnExactInsOkUptoSaid : Prop := fnExactInsOkUptoRow.holds Try.pinned (OpenSpec.upto fnExactInsOkSpec)

/-- 'laws.FnExactInsLong', WHERE WHAT IT READS IS OF BULK AT MOST 1048576: true; the input reads as it did. -/
def fnExactInsLongUptoRow : OpenClaim := { program := "ytemfopbpknljgaa", sum := "ecdb7282807427b2a91752bdf277addec1d7d78896eba4208155ffdaccec5b75", func := "loop.example/liftedcode/laws.FnExactInsLong", spec := "fnExactInsLong", unfollowed := true, recurses := true, apart := false, narrowed := true }
def FnExactInsLongUptoSaid : Prop := fnExactInsLongUptoRow.holds Try.pinned (OpenSpec.upto fnExactInsLongSpec)

/-- 'laws.FnExactInsPut', WHERE WHAT IT READS IS OF BULK AT MOST 1048576: true; the input reads as it did. -/
def fnExactInsPutUptoRow : OpenClaim := { program := "ytemfopbpknljgaa", sum := "ecdb7282807427b2a91752bdf277addec1d7d78896eba4208155ffdaccec5b75", func := "loop.example/liftedcode/laws.FnExactInsPut", spec := "fnExactInsPut", unfollowed := true, recurses := true, apart := false, narrowed := true }
def FnExactInsPutUptoSaid : Prop := fnExactInsPutUptoRow.holds Try.pinned (OpenSpec.upto fnExactInsPutSpec)

/-- 'laws.FnExactInsAt', WHERE WHAT IT READS IS OF BULK AT MOST 1048576: true; the input reads as it did. -/
def fnExactInsAtUptoRow : OpenClaim := { program := "ytemfopbpknljgaa", sum := "ecdb7282807427b2a91752bdf277addec1d7d78896eba4208155ffdaccec5b75", func := "loop.example/liftedcode/laws.FnExactInsAt", spec := "fnExactInsAt", unfollowed := true, recurses := true, apart := false, narrowed := true }
def FnExactInsAtUptoSaid : Prop := fnExactInsAtUptoRow.holds Try.pinned (OpenSpec.upto fnExactInsAtSpec)

end Rows
end Go.Proofs.Ytemfopbpknljgaa
