/-
  DERIVED. GIVEN WITH THE SEED: THE CARDS: each row of YtlgnakhfkpjioaaDoorRows.lean that lists a variable, with what it lists TIED to the program's text (the seventh form; the later family's looks); each row that meets fmt, with fmt's text TOLD by the authors' own Lean function (tested against real Go, not proved from fmt's source: count such statements apart). THE CARD IS WHAT COUNTS. Prove the row's statement (the work); the ties are given (YtlgnakhfkpjioaaDoorTie.lean); close each card by the builder's one call (the guide's Derived/Test/ToyasCard.lean, 'card_holds'). Laid BY PROGRAM, IN A SANDBOX (cutbox-door.mjs). By AI agents, Wed Nov 11 2026. No macro, syntax, notation, axiom, sorry.
-/
import Derived.Test.YtlgnakhfkpjioaaDoorRows
import GoSem.ClaimSeven
namespace Go.Proofs.YtlgnakhfkpjioaaDoor
namespace Rows

/-- THE TIED CARD OF 'laws.FnExactTermOk'. -/
def fnExactTermOkCard : Claim7 := { stood := { row := fnExactTermOkRow, standIns := [], harness := (true, "6f665d5ad2470697d872cb9312696b4d2149a239e7933b4fe41e4154937e8237"), looks := true }, kinds := [], alts := [], laidByText := true, laidKinds := [.data, .data], laidTests := true, laidLooks := .later }
def FnExactTermOkCardSaid : Prop := Claim7.holds Tryd.pinned (.plain (OpenSpec.ofChange fnExactTermOkSpec)) fnExactTermOkCard

/-- THE TIED CARD OF 'laws.FnExactTermSame'. -/
def fnExactTermSameCard : Claim7 := { stood := { row := fnExactTermSameRow, standIns := [], harness := (true, "6f665d5ad2470697d872cb9312696b4d2149a239e7933b4fe41e4154937e8237"), looks := true }, kinds := [], alts := [], laidByText := true, laidKinds := [.data, .data], laidTests := true, laidLooks := .later }
def FnExactTermSameCardSaid : Prop := Claim7.holds Tryd.pinned (.plain (OpenSpec.ofChange fnExactTermSameSpec)) fnExactTermSameCard

/-- THE TIED CARD OF 'laws.FnExactTermText'. -/
def fnExactTermTextCard : Claim7 := { stood := { row := fnExactTermTextRow, standIns := [], harness := (true, "6f665d5ad2470697d872cb9312696b4d2149a239e7933b4fe41e4154937e8237"), looks := true }, kinds := [], alts := [], laidByText := true, laidKinds := [.data, .data, .data, .data, .data], laidTests := true, laidLooks := .later }
def FnExactTermTextCardSaid : Prop := Claim7.holds Tryd.pinned (.plain (OpenSpec.ofChange fnExactTermTextSpec)) fnExactTermTextCard

/-- THE TIED CARD OF 'laws.FnExactTermRead'. -/
def fnExactTermReadCard : Claim7 := { stood := { row := fnExactTermReadRow, standIns := [], harness := (true, "6f665d5ad2470697d872cb9312696b4d2149a239e7933b4fe41e4154937e8237"), looks := true }, kinds := [], alts := [], laidByText := true, laidKinds := [.data, .data, .data, .sentinel, .sentinel, .data, .data], laidTests := true, laidLooks := .later }
def FnExactTermReadCardSaid : Prop := Claim7.holds Tryd.pinned (.plain (OpenSpec.ofChange fnExactTermReadSpec)) fnExactTermReadCard

/-- THE TIED CARD OF 'laws.FnExactTermVars'. -/
def fnExactTermVarsCard : Claim7 := { stood := { row := fnExactTermVarsRow, standIns := [], harness := (true, "6f665d5ad2470697d872cb9312696b4d2149a239e7933b4fe41e4154937e8237"), looks := true }, kinds := [], alts := [], laidByText := true, laidKinds := [.data, .data], laidTests := true, laidLooks := .later }
def FnExactTermVarsCardSaid : Prop := Claim7.holds Tryd.pinned (.plain (OpenSpec.ofChange fnExactTermVarsSpec)) fnExactTermVarsCard

/-- THE TIED CARD OF 'laws.FnExactTermPut'. -/
def fnExactTermPutCard : Claim7 := { stood := { row := fnExactTermPutRow, standIns := [], harness := (true, "6f665d5ad2470697d872cb9312696b4d2149a239e7933b4fe41e4154937e8237"), looks := true }, kinds := [], alts := [], laidByText := true, laidKinds := [.data, .data], laidTests := true, laidLooks := .later }
def FnExactTermPutCardSaid : Prop := Claim7.holds Tryd.pinned (.plain (OpenSpec.ofChange fnExactTermPutSpec)) fnExactTermPutCard

/-- THE TIED CARD OF 'laws.FnExactTermValue'. -/
def fnExactTermValueCard : Claim7 := { stood := { row := fnExactTermValueRow, standIns := [], harness := (true, "6f665d5ad2470697d872cb9312696b4d2149a239e7933b4fe41e4154937e8237"), looks := true }, kinds := [], alts := [], laidByText := true, laidKinds := [.data, .data], laidTests := true, laidLooks := .later }
def FnExactTermValueCardSaid : Prop := Claim7.holds Tryd.pinned (.plain (OpenSpec.ofChange fnExactTermValueSpec)) fnExactTermValueCard

/-- THE TIED CARD OF 'laws.FnTermVars'. -/
def fnTermVarsCard : Claim7 := { stood := { row := fnTermVarsRow, standIns := [], harness := (true, "6f665d5ad2470697d872cb9312696b4d2149a239e7933b4fe41e4154937e8237"), looks := true }, kinds := [], alts := [], laidByText := true, laidKinds := [.data, .data], laidTests := true, laidLooks := .later }
def FnTermVarsCardSaid : Prop := Claim7.holds Tryd.pinned (.plain (OpenSpec.ofChange fnTermVarsSpec)) fnTermVarsCard

/-- THE TIED CARD OF 'laws.FnTermPut'. -/
def fnTermPutCard : Claim7 := { stood := { row := fnTermPutRow, standIns := [], harness := (true, "6f665d5ad2470697d872cb9312696b4d2149a239e7933b4fe41e4154937e8237"), looks := true }, kinds := [], alts := [], laidByText := true, laidKinds := [.data, .data], laidTests := true, laidLooks := .later }
def FnTermPutCardSaid : Prop := Claim7.holds Tryd.pinned (.plain (OpenSpec.ofChange fnTermPutSpec)) fnTermPutCard

/-- THE SECOND FORM's CARD OF 'laws.FnExactTermOk'. -/
def fnExactTermOkUptoCard : Claim7 := { stood := { row := fnExactTermOkUptoRow, standIns := [], harness := (true, "6f665d5ad2470697d872cb9312696b4d2149a239e7933b4fe41e4154937e8237"), looks := true }, kinds := [], alts := [], laidByText := true, laidKinds := [.data, .data], laidTests := true, laidLooks := .later }
def FnExactTermOkUptoCardSaid : Prop := Claim7.holds Tryd.pinned (.plain (OpenSpec.upto fnExactTermOkSpec)) fnExactTermOkUptoCard

/-- THE SECOND FORM's CARD OF 'laws.FnExactTermSame'. -/
def fnExactTermSameUptoCard : Claim7 := { stood := { row := fnExactTermSameUptoRow, standIns := [], harness := (true, "6f665d5ad2470697d872cb9312696b4d2149a239e7933b4fe41e4154937e8237"), looks := true }, kinds := [], alts := [], laidByText := true, laidKinds := [.data, .data], laidTests := true, laidLooks := .later }
def FnExactTermSameUptoCardSaid : Prop := Claim7.holds Tryd.pinned (.plain (OpenSpec.upto fnExactTermSameSpec)) fnExactTermSameUptoCard

/-- THE SECOND FORM's CARD OF 'laws.FnExactTermText'. -/
def fnExactTermTextUptoCard : Claim7 := { stood := { row := fnExactTermTextUptoRow, standIns := [], harness := (true, "6f665d5ad2470697d872cb9312696b4d2149a239e7933b4fe41e4154937e8237"), looks := true }, kinds := [], alts := [], laidByText := true, laidKinds := [.data, .data, .data, .data, .data], laidTests := true, laidLooks := .later }
def FnExactTermTextUptoCardSaid : Prop := Claim7.holds Tryd.pinned (.plain (OpenSpec.upto fnExactTermTextSpec)) fnExactTermTextUptoCard

/-- THE SECOND FORM's CARD OF 'laws.FnExactTermRead'. -/
def fnExactTermReadUptoCard : Claim7 := { stood := { row := fnExactTermReadUptoRow, standIns := [], harness := (true, "6f665d5ad2470697d872cb9312696b4d2149a239e7933b4fe41e4154937e8237"), looks := true }, kinds := [], alts := [], laidByText := true, laidKinds := [.data, .data, .data, .sentinel, .sentinel, .data, .data], laidTests := true, laidLooks := .later }
def FnExactTermReadUptoCardSaid : Prop := Claim7.holds Tryd.pinned (.plain (OpenSpec.upto fnExactTermReadSpec)) fnExactTermReadUptoCard

/-- THE SECOND FORM's CARD OF 'laws.FnExactTermVars'. -/
def fnExactTermVarsUptoCard : Claim7 := { stood := { row := fnExactTermVarsUptoRow, standIns := [], harness := (true, "6f665d5ad2470697d872cb9312696b4d2149a239e7933b4fe41e4154937e8237"), looks := true }, kinds := [], alts := [], laidByText := true, laidKinds := [.data, .data], laidTests := true, laidLooks := .later }
def FnExactTermVarsUptoCardSaid : Prop := Claim7.holds Tryd.pinned (.plain (OpenSpec.upto fnExactTermVarsSpec)) fnExactTermVarsUptoCard

/-- THE SECOND FORM's CARD OF 'laws.FnExactTermPut'. -/
def fnExactTermPutUptoCard : Claim7 := { stood := { row := fnExactTermPutUptoRow, standIns := [], harness := (true, "6f665d5ad2470697d872cb9312696b4d2149a239e7933b4fe41e4154937e8237"), looks := true }, kinds := [], alts := [], laidByText := true, laidKinds := [.data, .data], laidTests := true, laidLooks := .later }
def FnExactTermPutUptoCardSaid : Prop := Claim7.holds Tryd.pinned (.plain (OpenSpec.upto fnExactTermPutSpec)) fnExactTermPutUptoCard

/-- THE SECOND FORM's CARD OF 'laws.FnExactTermValue'. -/
def fnExactTermValueUptoCard : Claim7 := { stood := { row := fnExactTermValueUptoRow, standIns := [], harness := (true, "6f665d5ad2470697d872cb9312696b4d2149a239e7933b4fe41e4154937e8237"), looks := true }, kinds := [], alts := [], laidByText := true, laidKinds := [.data, .data], laidTests := true, laidLooks := .later }
def FnExactTermValueUptoCardSaid : Prop := Claim7.holds Tryd.pinned (.plain (OpenSpec.upto fnExactTermValueSpec)) fnExactTermValueUptoCard

/-- THE SECOND FORM's CARD OF 'laws.FnTermVars'. -/
def fnTermVarsUptoCard : Claim7 := { stood := { row := fnTermVarsUptoRow, standIns := [], harness := (true, "6f665d5ad2470697d872cb9312696b4d2149a239e7933b4fe41e4154937e8237"), looks := true }, kinds := [], alts := [], laidByText := true, laidKinds := [.data, .data], laidTests := true, laidLooks := .later }
def FnTermVarsUptoCardSaid : Prop := Claim7.holds Tryd.pinned (.plain (OpenSpec.upto fnTermVarsSpec)) fnTermVarsUptoCard

/-- THE SECOND FORM's CARD OF 'laws.FnTermPut'. -/
def fnTermPutUptoCard : Claim7 := { stood := { row := fnTermPutUptoRow, standIns := [], harness := (true, "6f665d5ad2470697d872cb9312696b4d2149a239e7933b4fe41e4154937e8237"), looks := true }, kinds := [], alts := [], laidByText := true, laidKinds := [.data, .data], laidTests := true, laidLooks := .later }
def FnTermPutUptoCardSaid : Prop := Claim7.holds Tryd.pinned (.plain (OpenSpec.upto fnTermPutSpec)) fnTermPutUptoCard
end Rows
end Go.Proofs.YtlgnakhfkpjioaaDoor
