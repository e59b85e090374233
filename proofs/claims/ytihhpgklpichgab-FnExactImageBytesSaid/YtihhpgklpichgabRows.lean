/-
  No cell of these rows narrows 'for every input' (looked for: loops, veiled, ifaces, maps, wideKeys, modest, calm, conditions, laid).
  DERIVED. THE GIVEN ROWS OF THIS SEAT. 12 by the template 'for every input the law returns true; each argument reads behind the call as it read before'; 0 by the template 'total and deterministic' (their statements: YtihhpgklpichgabTotals.lean).
  GIVEN WITH THE SEED: the statements are not yours to turn. If you find one false, say at which input.
  Laid BY PROGRAM, IN A SANDBOX (cutbox-rows.mjs): the forced cells as the released guide's own fill.sh prints them over the translation f5d6e5d6ec0450d5… (all of the seat's roots in one cut). By AI agents, Wed Nov 11 2026. No macro, syntax, notation, axiom, sorry.
-/
import Derived.Test.YtihhpgklpichgabChecked
import GoSem.Claim
import GoSem.ClaimJoined
import GoSem.ClaimMapViews
import Derived.JoinedTies
import Derived.KernelRfl
namespace Go.Proofs.Ytihhpgklpichgab
/- THE CELL 'sum', in the pinned program and in every row, IS THE sha256 OF THE DUMP (.gsa) THAT YtihhpgklpichgabProg.lean LOADS. Nothing in Lean hashes anything: it is a label: what it is worth is what the hold of that sum in a sandbox is worth. -/
noncomputable def Try.pinned : Pinned := { name := "ytihhpgklpichgab", sum := "f5d6e5d6ec0450d57fe1ef7b89ca5971e8877c8480939f58a5cb396a9bceb651", checked := Try.checked }
namespace Rows
def none {H : Type} : Left H := { results := [], args := [] }

/-- 'laws.FnExactInsAt': WHATEVER THE INPUT: true; the input reads as it did. -/
def fnExactInsAtSpec : ChangeSpec := { name := "fnExactInsAt", fn := fun _ => fun
  | [d1, d2] => { results := [.lit (.bool true)], args := [d1, d2] }
  | _ => none }
def fnExactInsAtRow : OpenClaim := { program := "ytihhpgklpichgab", sum := "f5d6e5d6ec0450d57fe1ef7b89ca5971e8877c8480939f58a5cb396a9bceb651", func := "loop.example/liftedcode/laws.FnExactInsAt", spec := "fnExactInsAt", unfollowed := true, recurses := true, apart := false }
def FnExactInsAtSaid : Prop := fnExactInsAtRow.holds Try.pinned (OpenSpec.ofChange fnExactInsAtSpec)

/-- ITS FALSE NEIGHBOUR: 'it returns false'. Refute it at one input. -/
def fnExactInsAtWrong : ChangeSpec := { name := "fnExactInsAt", fn := fun _ => fun
  | [d1, d2] => { results := [.lit (.bool false)], args := [d1, d2] }
  | _ => none }
def FnExactInsAtWrongFalsely : Prop := fnExactInsAtRow.holds Try.pinned (OpenSpec.ofChange fnExactInsAtWrong)

/-- 'laws.FnInsOk': WHATEVER THE INPUT: true; the input reads as it did. -/
def fnInsOkSpec : ChangeSpec := { name := "fnInsOk", fn := fun _ => fun
  | [d] => { results := [.lit (.bool true)], args := [d] }
  | _ => none }
def fnInsOkRow : OpenClaim := { program := "ytihhpgklpichgab", sum := "f5d6e5d6ec0450d57fe1ef7b89ca5971e8877c8480939f58a5cb396a9bceb651", func := "loop.example/liftedcode/laws.FnInsOk", spec := "fnInsOk", unfollowed := true, recurses := true, apart := false }
def FnInsOkSaid : Prop := fnInsOkRow.holds Try.pinned (OpenSpec.ofChange fnInsOkSpec)

/-- ITS FALSE NEIGHBOUR: 'it returns false'. Refute it at one input. -/
def fnInsOkWrong : ChangeSpec := { name := "fnInsOk", fn := fun _ => fun
  | [d] => { results := [.lit (.bool false)], args := [d] }
  | _ => none }
def FnInsOkWrongFalsely : Prop := fnInsOkRow.holds Try.pinned (OpenSpec.ofChange fnInsOkWrong)

/-- 'laws.FnInsPut': WHATEVER THE INPUT: true; the input reads as it did. -/
def fnInsPutSpec : ChangeSpec := { name := "fnInsPut", fn := fun _ => fun
  | [d] => { results := [.lit (.bool true)], args := [d] }
  | _ => none }
def fnInsPutRow : OpenClaim := { program := "ytihhpgklpichgab", sum := "f5d6e5d6ec0450d57fe1ef7b89ca5971e8877c8480939f58a5cb396a9bceb651", func := "loop.example/liftedcode/laws.FnInsPut", spec := "fnInsPut", unfollowed := true, recurses := true, apart := false }
def FnInsPutSaid : Prop := fnInsPutRow.holds Try.pinned (OpenSpec.ofChange fnInsPutSpec)

/-- ITS FALSE NEIGHBOUR: 'it returns false'. Refute it at one input. -/
def fnInsPutWrong : ChangeSpec := { name := "fnInsPut", fn := fun _ => fun
  | [d] => { results := [.lit (.bool false)], args := [d] }
  | _ => none }
def FnInsPutWrongFalsely : Prop := fnInsPutRow.holds Try.pinned (OpenSpec.ofChange fnInsPutWrong)

/-- 'laws.FnInsAt': WHATEVER THE INPUT: true; the input reads as it did. -/
def fnInsAtSpec : ChangeSpec := { name := "fnInsAt", fn := fun _ => fun
  | [d] => { results := [.lit (.bool true)], args := [d] }
  | _ => none }
def fnInsAtRow : OpenClaim := { program := "ytihhpgklpichgab", sum := "f5d6e5d6ec0450d57fe1ef7b89ca5971e8877c8480939f58a5cb396a9bceb651", func := "loop.example/liftedcode/laws.FnInsAt", spec := "fnInsAt", unfollowed := true, recurses := true, apart := false }
def FnInsAtSaid : Prop := fnInsAtRow.holds Try.pinned (OpenSpec.ofChange fnInsAtSpec)

/-- ITS FALSE NEIGHBOUR: 'it returns false'. Refute it at one input. -/
def fnInsAtWrong : ChangeSpec := { name := "fnInsAt", fn := fun _ => fun
  | [d] => { results := [.lit (.bool false)], args := [d] }
  | _ => none }
def FnInsAtWrongFalsely : Prop := fnInsAtRow.holds Try.pinned (OpenSpec.ofChange fnInsAtWrong)

/-- 'laws.FnExactImageOk': WHATEVER THE INPUT: true; the input reads as it did. -/
def fnExactImageOkSpec : ChangeSpec := { name := "fnExactImageOk", fn := fun _ => fun
  | [d] => { results := [.lit (.bool true)], args := [d] }
  | _ => none }
def fnExactImageOkRow : OpenClaim := { program := "ytihhpgklpichgab", sum := "f5d6e5d6ec0450d57fe1ef7b89ca5971e8877c8480939f58a5cb396a9bceb651", func := "loop.example/liftedcode/laws.FnExactImageOk", spec := "fnExactImageOk", unfollowed := true, recurses := true, apart := false }
def FnExactImageOkSaid : Prop := fnExactImageOkRow.holds Try.pinned (OpenSpec.ofChange fnExactImageOkSpec)

/-- ITS FALSE NEIGHBOUR: 'it returns false'. Refute it at one input. -/
def fnExactImageOkWrong : ChangeSpec := { name := "fnExactImageOk", fn := fun _ => fun
  | [d] => { results := [.lit (.bool false)], args := [d] }
  | _ => none }
def FnExactImageOkWrongFalsely : Prop := fnExactImageOkRow.holds Try.pinned (OpenSpec.ofChange fnExactImageOkWrong)

/-- 'laws.FnExactImageSame': WHATEVER THE INPUT: true; the input reads as it did. -/
def fnExactImageSameSpec : ChangeSpec := { name := "fnExactImageSame", fn := fun _ => fun
  | [d1, d2] => { results := [.lit (.bool true)], args := [d1, d2] }
  | _ => none }
def fnExactImageSameRow : OpenClaim := { program := "ytihhpgklpichgab", sum := "f5d6e5d6ec0450d57fe1ef7b89ca5971e8877c8480939f58a5cb396a9bceb651", func := "loop.example/liftedcode/laws.FnExactImageSame", spec := "fnExactImageSame", unfollowed := true, recurses := true, apart := false }
def FnExactImageSameSaid : Prop := fnExactImageSameRow.holds Try.pinned (OpenSpec.ofChange fnExactImageSameSpec)

/-- ITS FALSE NEIGHBOUR: 'it returns false'. Refute it at one input. -/
def fnExactImageSameWrong : ChangeSpec := { name := "fnExactImageSame", fn := fun _ => fun
  | [d1, d2] => { results := [.lit (.bool false)], args := [d1, d2] }
  | _ => none }
def FnExactImageSameWrongFalsely : Prop := fnExactImageSameRow.holds Try.pinned (OpenSpec.ofChange fnExactImageSameWrong)

/-- 'laws.FnExactImageBytes': WHATEVER THE INPUT: true; the input reads as it did. -/
def fnExactImageBytesSpec : ChangeSpec := { name := "fnExactImageBytes", fn := fun _ => fun
  | [d] => { results := [.lit (.bool true)], args := [d] }
  | _ => none }
def fnExactImageBytesRow : OpenClaim := { program := "ytihhpgklpichgab", sum := "f5d6e5d6ec0450d57fe1ef7b89ca5971e8877c8480939f58a5cb396a9bceb651", func := "loop.example/liftedcode/laws.FnExactImageBytes", spec := "fnExactImageBytes", unfollowed := true, recurses := true, apart := false }
def FnExactImageBytesSaid : Prop := fnExactImageBytesRow.holds Try.pinned (OpenSpec.ofChange fnExactImageBytesSpec)

/-- ITS FALSE NEIGHBOUR: 'it returns false'. Refute it at one input. -/
def fnExactImageBytesWrong : ChangeSpec := { name := "fnExactImageBytes", fn := fun _ => fun
  | [d] => { results := [.lit (.bool false)], args := [d] }
  | _ => none }
def FnExactImageBytesWrongFalsely : Prop := fnExactImageBytesRow.holds Try.pinned (OpenSpec.ofChange fnExactImageBytesWrong)

/-- 'laws.FnExactImageRead': WHATEVER THE INPUT: true; the input reads as it did. -/
def fnExactImageReadSpec : ChangeSpec := { name := "fnExactImageRead", fn := fun _ => fun
  | [d] => { results := [.lit (.bool true)], args := [d] }
  | _ => none }
def fnExactImageReadRow : OpenClaim := { program := "ytihhpgklpichgab", sum := "f5d6e5d6ec0450d57fe1ef7b89ca5971e8877c8480939f58a5cb396a9bceb651", func := "loop.example/liftedcode/laws.FnExactImageRead", spec := "fnExactImageRead", unfollowed := true, recurses := true, apart := false }
def FnExactImageReadSaid : Prop := fnExactImageReadRow.holds Try.pinned (OpenSpec.ofChange fnExactImageReadSpec)

/-- ITS FALSE NEIGHBOUR: 'it returns false'. Refute it at one input. -/
def fnExactImageReadWrong : ChangeSpec := { name := "fnExactImageRead", fn := fun _ => fun
  | [d] => { results := [.lit (.bool false)], args := [d] }
  | _ => none }
def FnExactImageReadWrongFalsely : Prop := fnExactImageReadRow.holds Try.pinned (OpenSpec.ofChange fnExactImageReadWrong)

/-- 'laws.FnExactSweepOf': WHATEVER THE INPUT: true; the input reads as it did. -/
def fnExactSweepOfSpec : ChangeSpec := { name := "fnExactSweepOf", fn := fun _ => fun
  | [d] => { results := [.lit (.bool true)], args := [d] }
  | _ => none }
def fnExactSweepOfRow : OpenClaim := { program := "ytihhpgklpichgab", sum := "f5d6e5d6ec0450d57fe1ef7b89ca5971e8877c8480939f58a5cb396a9bceb651", func := "loop.example/liftedcode/laws.FnExactSweepOf", spec := "fnExactSweepOf", unfollowed := true, recurses := true, apart := false }
def FnExactSweepOfSaid : Prop := fnExactSweepOfRow.holds Try.pinned (OpenSpec.ofChange fnExactSweepOfSpec)

/-- ITS FALSE NEIGHBOUR: 'it returns false'. Refute it at one input. -/
def fnExactSweepOfWrong : ChangeSpec := { name := "fnExactSweepOf", fn := fun _ => fun
  | [d] => { results := [.lit (.bool false)], args := [d] }
  | _ => none }
def FnExactSweepOfWrongFalsely : Prop := fnExactSweepOfRow.holds Try.pinned (OpenSpec.ofChange fnExactSweepOfWrong)

/-- 'laws.FnExactSweepBytes': WHATEVER THE INPUT: true; the input reads as it did. -/
def fnExactSweepBytesSpec : ChangeSpec := { name := "fnExactSweepBytes", fn := fun _ => fun
  | [d] => { results := [.lit (.bool true)], args := [d] }
  | _ => none }
def fnExactSweepBytesRow : OpenClaim := { program := "ytihhpgklpichgab", sum := "f5d6e5d6ec0450d57fe1ef7b89ca5971e8877c8480939f58a5cb396a9bceb651", func := "loop.example/liftedcode/laws.FnExactSweepBytes", spec := "fnExactSweepBytes", unfollowed := true, recurses := true, apart := false }
def FnExactSweepBytesSaid : Prop := fnExactSweepBytesRow.holds Try.pinned (OpenSpec.ofChange fnExactSweepBytesSpec)

/-- ITS FALSE NEIGHBOUR: 'it returns false'. Refute it at one input. -/
def fnExactSweepBytesWrong : ChangeSpec := { name := "fnExactSweepBytes", fn := fun _ => fun
  | [d] => { results := [.lit (.bool false)], args := [d] }
  | _ => none }
def FnExactSweepBytesWrongFalsely : Prop := fnExactSweepBytesRow.holds Try.pinned (OpenSpec.ofChange fnExactSweepBytesWrong)

/-- 'laws.FnSweepOf': WHATEVER THE INPUT: true; the input reads as it did. -/
def fnSweepOfSpec : ChangeSpec := { name := "fnSweepOf", fn := fun _ => fun
  | [d] => { results := [.lit (.bool true)], args := [d] }
  | _ => none }
def fnSweepOfRow : OpenClaim := { program := "ytihhpgklpichgab", sum := "f5d6e5d6ec0450d57fe1ef7b89ca5971e8877c8480939f58a5cb396a9bceb651", func := "loop.example/liftedcode/laws.FnSweepOf", spec := "fnSweepOf", unfollowed := true, recurses := true, apart := false }
def FnSweepOfSaid : Prop := fnSweepOfRow.holds Try.pinned (OpenSpec.ofChange fnSweepOfSpec)

/-- ITS FALSE NEIGHBOUR: 'it returns false'. Refute it at one input. -/
def fnSweepOfWrong : ChangeSpec := { name := "fnSweepOf", fn := fun _ => fun
  | [d] => { results := [.lit (.bool false)], args := [d] }
  | _ => none }
def FnSweepOfWrongFalsely : Prop := fnSweepOfRow.holds Try.pinned (OpenSpec.ofChange fnSweepOfWrong)

/-- 'laws.FnSweepBytes': WHATEVER THE INPUT: true; the input reads as it did. -/
def fnSweepBytesSpec : ChangeSpec := { name := "fnSweepBytes", fn := fun _ => fun
  | [d] => { results := [.lit (.bool true)], args := [d] }
  | _ => none }
def fnSweepBytesRow : OpenClaim := { program := "ytihhpgklpichgab", sum := "f5d6e5d6ec0450d57fe1ef7b89ca5971e8877c8480939f58a5cb396a9bceb651", func := "loop.example/liftedcode/laws.FnSweepBytes", spec := "fnSweepBytes", unfollowed := true, recurses := true, apart := false }
def FnSweepBytesSaid : Prop := fnSweepBytesRow.holds Try.pinned (OpenSpec.ofChange fnSweepBytesSpec)

/-- ITS FALSE NEIGHBOUR: 'it returns false'. Refute it at one input. -/
def fnSweepBytesWrong : ChangeSpec := { name := "fnSweepBytes", fn := fun _ => fun
  | [d] => { results := [.lit (.bool false)], args := [d] }
  | _ => none }
def FnSweepBytesWrongFalsely : Prop := fnSweepBytesRow.holds Try.pinned (OpenSpec.ofChange fnSweepBytesWrong)

/- THE SECOND FORM. 'bulk': how many values and letters a reading holds, each counted each time it is reached (what is shared counts as often as it is met; a slice's spare places count too). A statement '..UptoSaid' is the law's where the arguments, and the package variables that the reading takes, are together of bulk at most 1048576: NARROWER than '..Said'. Prove '..Said' where nothing that the law and all that it calls make is longer than what came in: it says more and counts as full. Else prove '..UptoSaid'. A law counts once. -/
mutual
def uptoBulk {H : Type} : DataW H → Nat
  | .lit (.string bytes) => bytes.length + 1
  | .lit _ => 1
  | .nil => 1
  | .ptr d => uptoBulk d + 1
  | .slice elems spare => uptoBulkAll elems + uptoBulkAll spare + 1
  | .agg parts => uptoBulkAll parts + 1
  | .iface _ d => uptoBulk d + 1
  | .map entries => uptoBulkEntries entries + 1
  | .held _ => 1
def uptoBulkAll {H : Type} : List (DataW H) → Nat
  | [] => 0
  | d :: r => uptoBulk d + uptoBulkAll r
def uptoBulkEntries {H : Type} : List (Lit × DataW H) → Nat
  | [] => 0
  | x :: r => uptoBulkEntry x + uptoBulkEntries r
def uptoBulkEntry {H : Type} : Lit × DataW H → Nat
  | (.string bytes, d) => bytes.length + uptoBulk d + 1
  | (_, d) => uptoBulk d + 1
 end
def uptoSmall : (H : Type) → List (DataW H) → Bool := fun _ ds => decide (uptoBulkAll ds ≤ 1048576)
def OpenSpec.upto (s : _root_.Go.ChangeSpec) : _root_.Go.OpenSpec := { _root_.Go.OpenSpec.ofChange s with cond := some uptoSmall }

/-- 'laws.FnExactInsAt', WHERE WHAT IT READS IS OF BULK AT MOST 1048576: true; the input reads as it did. -/
def fnExactInsAtUptoRow : OpenClaim := { program := "ytihhpgklpichgab", sum := "f5d6e5d6ec0450d57fe1ef7b89ca5971e8877c8480939f58a5cb396a9bceb651", func := "loop.example/liftedcode/laws.FnExactInsAt", spec := "fnExactInsAt", unfollowed := true, recurses := true, apart := false, narrowed := true }
def FnExactInsAtUptoSaid : Prop := fnExactInsAtUptoRow.holds Try.pinned (OpenSpec.upto fnExactInsAtSpec)

/-- 'laws.FnInsOk', WHERE WHAT IT READS IS OF BULK AT MOST 1048576: true; the input reads as it did. -/
def fnInsOkUptoRow : OpenClaim := { program := "ytihhpgklpichgab", sum := "f5d6e5d6ec0450d57fe1ef7b89ca5971e8877c8480939f58a5cb396a9bceb651", func := "loop.example/liftedcode/laws.FnInsOk", spec := "fnInsOk", unfollowed := true, recurses := true, apart := false, narrowed := true }
def FnInsOkUptoSaid : Prop := fnInsOkUptoRow.holds Try.pinned (OpenSpec.upto fnInsOkSpec)

/-- 'laws.FnInsPut', WHERE WHAT IT READS IS OF BULK AT MOST 1048576: true; the input reads as it did. -/
def fnInsPutUptoRow : OpenClaim := { program := "ytihhpgklpichgab", sum := "f5d6e5d6ec0450d57fe1ef7b89ca5971e8877c8480939f58a5cb396a9bceb651", func := "loop.example/liftedcode/laws.FnInsPut", spec := "fnInsPut", unfollowed := true, recurses := true, apart := false, narrowed := true }
def FnInsPutUptoSaid : Prop := fnInsPutUptoRow.holds Try.pinned (OpenSpec.upto fnInsPutSpec)

/-- 'laws.FnInsAt', WHERE WHAT IT READS IS OF BULK AT MOST 1048576: true; the input reads as it did. -/
def fnInsAtUptoRow : OpenClaim := { program := "ytihhpgklpichgab", sum := "f5d6e5d6ec0450d57fe1ef7b89ca5971e8877c8480939f58a5cb396a9bceb651", func := "loop.example/liftedcode/laws.FnInsAt", spec := "fnInsAt", unfollowed := true, recurses := true, apart := false, narrowed := true }
def FnInsAtUptoSaid : Prop := fnInsAtUptoRow.holds Try.pinned (OpenSpec.upto fnInsAtSpec)

/-- 'laws.FnExactImageOk', WHERE WHAT IT READS IS OF BULK AT MOST 1048576: true; the input reads as it did. -/
def fnExactImageOkUptoRow : OpenClaim := { program := "ytihhpgklpichgab", sum := "f5d6e5d6ec0450d57fe1ef7b89ca5971e8877c8480939f58a5cb396a9bceb651", func := "loop.example/liftedcode/laws.FnExactImageOk", spec := "fnExactImageOk", unfollowed := true, recurses := true, apart := false, narrowed := true }
def FnExactImageOkUptoSaid : Prop := fnExactImageOkUptoRow.holds Try.pinned (OpenSpec.upto fnExactImageOkSpec)

/-- 'laws.FnExactImageSame', WHERE WHAT IT READS IS OF BULK AT MOST 1048576: true; the input reads as it did. -/
def fnExactImageSameUptoRow : OpenClaim := { program := "ytihhpgklpichgab", sum := "f5d6e5d6ec0450d57fe1ef7b89ca5971e8877c8480939f58a5cb396a9bceb651", func := "loop.example/liftedcode/laws.FnExactImageSame", spec := "fnExactImageSame", unfollowed := true, recurses := true, apart := false, narrowed := true }
def FnExactImageSameUptoSaid : Prop := fnExactImageSameUptoRow.holds Try.pinned (OpenSpec.upto fnExactImageSameSpec)

/-- 'laws.FnExactImageBytes', WHERE WHAT IT READS IS OF BULK AT MOST 1048576: true; the input reads as it did. -/
def fnExactImageBytesUptoRow : OpenClaim := { program := "ytihhpgklpichgab", sum := "f5d6e5d6ec0450d57fe1ef7b89ca5971e8877c8480939f58a5cb396a9bceb651", func := "loop.example/liftedcode/laws.FnExactImageBytes", spec := "fnExactImageBytes", unfollowed := true, recurses := true, apart := false, narrowed := true }
def FnExactImageBytesUptoSaid : Prop := fnExactImageBytesUptoRow.holds Try.pinned (OpenSpec.upto fnExactImageBytesSpec)

/-- 'laws.FnExactImageRead', WHERE WHAT IT READS IS OF BULK AT MOST 1048576: true; the input reads as it did. -/
def fnExactImageReadUptoRow : OpenClaim := { program := "ytihhpgklpichgab", sum := "f5d6e5d6ec0450d57fe1ef7b89ca5971e8877c8480939f58a5cb396a9bceb651", func := "loop.example/liftedcode/laws.FnExactImageRead", spec := "fnExactImageRead", unfollowed := true, recurses := true, apart := false, narrowed := true }
def FnExactImageReadUptoSaid : Prop := fnExactImageReadUptoRow.holds Try.pinned (OpenSpec.upto fnExactImageReadSpec)

/-- 'laws.FnExactSweepOf', WHERE WHAT IT READS IS OF BULK AT MOST 1048576: true; the input reads as it did. -/
def fnExactSweepOfUptoRow : OpenClaim := { program := "ytihhpgklpichgab", sum := "f5d6e5d6ec0450d57fe1ef7b89ca5971e8877c8480939f58a5cb396a9bceb651", func := "loop.example/liftedcode/laws.FnExactSweepOf", spec := "fnExactSweepOf", unfollowed := true, recurses := true, apart := false, narrowed := true }
def FnExactSweepOfUptoSaid : Prop := fnExactSweepOfUptoRow.holds Try.pinned (OpenSpec.upto fnExactSweepOfSpec)

/-- 'laws.FnExactSweepBytes', WHERE WHAT IT READS IS OF BULK AT MOST 1048576: true; the input reads as it did. -/
def fnExactSweepBytesUptoRow : OpenClaim := { program := "ytihhpgklpichgab", sum := "f5d6e5d6ec0450d57fe1ef7b89ca5971e8877c8480939f58a5cb396a9bceb651", func := "loop.example/liftedcode/laws.FnExactSweepBytes", spec := "fnExactSweepBytes", unfollowed := true, recurses := true, apart := false, narrowed := true }
def FnExactSweepBytesUptoSaid : Prop := fnExactSweepBytesUptoRow.holds Try.pinned (OpenSpec.upto fnExactSweepBytesSpec)

/-- 'laws.FnSweepOf', WHERE WHAT IT READS IS OF BULK AT MOST 1048576: true; the input reads as it did. -/
def fnSweepOfUptoRow : OpenClaim := { program := "ytihhpgklpichgab", sum := "f5d6e5d6ec0450d57fe1ef7b89ca5971e8877c8480939f58a5cb396a9bceb651", func := "loop.example/liftedcode/laws.FnSweepOf", spec := "fnSweepOf", unfollowed := true, recurses := true, apart := false, narrowed := true }
def FnSweepOfUptoSaid : Prop := fnSweepOfUptoRow.holds Try.pinned (OpenSpec.upto fnSweepOfSpec)

/-- 'laws.FnSweepBytes', WHERE WHAT IT READS IS OF BULK AT MOST 1048576: true; the input reads as it did. -/
def fnSweepBytesUptoRow : OpenClaim := { program := "ytihhpgklpichgab", sum := "f5d6e5d6ec0450d57fe1ef7b89ca5971e8877c8480939f58a5cb396a9bceb651", func := "loop.example/liftedcode/laws.FnSweepBytes", spec := "fnSweepBytes", unfollowed := true, recurses := true, apart := false, narrowed := true }
def FnSweepBytesUptoSaid : Prop := fnSweepBytesUptoRow.holds Try.pinned (OpenSpec.upto fnSweepBytesSpec)

end Rows
end Go.Proofs.Ytihhpgklpichgab
