/-
  DERIVED. GIVEN WITH THE SEED: THE CARDS: each row of YtffibmlgdacafaaDoorRows.lean that lists a variable, with what it lists TIED to the program's text (the seventh form; the later family's looks); each row that meets fmt, with fmt's text TOLD by the authors' own Lean function (tested against real Go, not proved from fmt's source: count such statements apart). THE CARD IS WHAT COUNTS. Prove the row's statement (the work); the ties are given (YtffibmlgdacafaaDoorTie.lean); close each card by the builder's one call (the guide's Derived/Test/ToyasCard.lean, 'card_holds'). Laid BY PROGRAM, IN A SANDBOX (cutbox-door.mjs). By AI agents, Wed Nov 11 2026. No macro, syntax, notation, axiom, sorry.
-/
import Derived.Test.YtffibmlgdacafaaDoorRows
import GoSem.ClaimSeven
namespace Go.Proofs.YtffibmlgdacafaaDoor
namespace Rows

/-- THE TIED CARD OF 'laws.FnExactTermFold'. -/
def fnExactTermFoldCard : Claim7 := { stood := { row := fnExactTermFoldRow, standIns := [], harness := (true, "eddf5f5df6d1030de60f05ba0f3fd833aafe25a48e2e2f55add8a46007fcc1d0"), looks := true }, kinds := [], alts := [], laidByText := true, laidKinds := [.data, .data], laidTests := true, laidLooks := .later }
def FnExactTermFoldCardSaid : Prop := Claim7.holds Tryd.pinned (.plain (OpenSpec.ofChange fnExactTermFoldSpec)) fnExactTermFoldCard

/-- THE TIED CARD OF 'laws.FnExactTermRead'. -/
def fnExactTermReadCard : Claim7 := { stood := { row := fnExactTermReadRow, standIns := [], harness := (true, "eddf5f5df6d1030de60f05ba0f3fd833aafe25a48e2e2f55add8a46007fcc1d0"), looks := true }, kinds := [], alts := [], laidByText := true, laidKinds := [.data, .data, .data, .sentinel, .sentinel, .data, .data], laidTests := true, laidLooks := .later }
def FnExactTermReadCardSaid : Prop := Claim7.holds Tryd.pinned (.plain (OpenSpec.ofChange fnExactTermReadSpec)) fnExactTermReadCard

/-- THE TIED CARD OF 'laws.FnCondTerm'. -/
def fnCondTermCard : Claim7 := { stood := { row := fnCondTermRow, standIns := [], harness := (true, "eddf5f5df6d1030de60f05ba0f3fd833aafe25a48e2e2f55add8a46007fcc1d0"), looks := true }, kinds := [], alts := [], laidByText := true, laidKinds := [.data, .data], laidTests := true, laidLooks := .later }
def FnCondTermCardSaid : Prop := Claim7.holds Tryd.pinned (.plain (OpenSpec.ofChange fnCondTermSpec)) fnCondTermCard

/-- THE TIED CARD OF 'laws.FnTermVars'. -/
def fnTermVarsCard : Claim7 := { stood := { row := fnTermVarsRow, standIns := [], harness := (true, "eddf5f5df6d1030de60f05ba0f3fd833aafe25a48e2e2f55add8a46007fcc1d0"), looks := true }, kinds := [], alts := [], laidByText := true, laidKinds := [.data, .data], laidTests := true, laidLooks := .later }
def FnTermVarsCardSaid : Prop := Claim7.holds Tryd.pinned (.plain (OpenSpec.ofChange fnTermVarsSpec)) fnTermVarsCard

/-- THE TIED CARD OF 'laws.FnTermPut'. -/
def fnTermPutCard : Claim7 := { stood := { row := fnTermPutRow, standIns := [], harness := (true, "eddf5f5df6d1030de60f05ba0f3fd833aafe25a48e2e2f55add8a46007fcc1d0"), looks := true }, kinds := [], alts := [], laidByText := true, laidKinds := [.data, .data], laidTests := true, laidLooks := .later }
def FnTermPutCardSaid : Prop := Claim7.holds Tryd.pinned (.plain (OpenSpec.ofChange fnTermPutSpec)) fnTermPutCard

/-- THE SECOND FORM's CARD OF 'laws.FnExactTermFold'. -/
def fnExactTermFoldUptoCard : Claim7 := { stood := { row := fnExactTermFoldUptoRow, standIns := [], harness := (true, "eddf5f5df6d1030de60f05ba0f3fd833aafe25a48e2e2f55add8a46007fcc1d0"), looks := true }, kinds := [], alts := [], laidByText := true, laidKinds := [.data, .data], laidTests := true, laidLooks := .later }
def FnExactTermFoldUptoCardSaid : Prop := Claim7.holds Tryd.pinned (.plain (OpenSpec.upto fnExactTermFoldSpec)) fnExactTermFoldUptoCard

/-- THE SECOND FORM's CARD OF 'laws.FnExactTermRead'. -/
def fnExactTermReadUptoCard : Claim7 := { stood := { row := fnExactTermReadUptoRow, standIns := [], harness := (true, "eddf5f5df6d1030de60f05ba0f3fd833aafe25a48e2e2f55add8a46007fcc1d0"), looks := true }, kinds := [], alts := [], laidByText := true, laidKinds := [.data, .data, .data, .sentinel, .sentinel, .data, .data], laidTests := true, laidLooks := .later }
def FnExactTermReadUptoCardSaid : Prop := Claim7.holds Tryd.pinned (.plain (OpenSpec.upto fnExactTermReadSpec)) fnExactTermReadUptoCard

/-- THE SECOND FORM's CARD OF 'laws.FnCondTerm'. -/
def fnCondTermUptoCard : Claim7 := { stood := { row := fnCondTermUptoRow, standIns := [], harness := (true, "eddf5f5df6d1030de60f05ba0f3fd833aafe25a48e2e2f55add8a46007fcc1d0"), looks := true }, kinds := [], alts := [], laidByText := true, laidKinds := [.data, .data], laidTests := true, laidLooks := .later }
def FnCondTermUptoCardSaid : Prop := Claim7.holds Tryd.pinned (.plain (OpenSpec.upto fnCondTermSpec)) fnCondTermUptoCard

/-- THE SECOND FORM's CARD OF 'laws.FnTermVars'. -/
def fnTermVarsUptoCard : Claim7 := { stood := { row := fnTermVarsUptoRow, standIns := [], harness := (true, "eddf5f5df6d1030de60f05ba0f3fd833aafe25a48e2e2f55add8a46007fcc1d0"), looks := true }, kinds := [], alts := [], laidByText := true, laidKinds := [.data, .data], laidTests := true, laidLooks := .later }
def FnTermVarsUptoCardSaid : Prop := Claim7.holds Tryd.pinned (.plain (OpenSpec.upto fnTermVarsSpec)) fnTermVarsUptoCard

/-- THE SECOND FORM's CARD OF 'laws.FnTermPut'. -/
def fnTermPutUptoCard : Claim7 := { stood := { row := fnTermPutUptoRow, standIns := [], harness := (true, "eddf5f5df6d1030de60f05ba0f3fd833aafe25a48e2e2f55add8a46007fcc1d0"), looks := true }, kinds := [], alts := [], laidByText := true, laidKinds := [.data, .data], laidTests := true, laidLooks := .later }
def FnTermPutUptoCardSaid : Prop := Claim7.holds Tryd.pinned (.plain (OpenSpec.upto fnTermPutSpec)) fnTermPutUptoCard
end Rows
end Go.Proofs.YtffibmlgdacafaaDoor
