/-
  DERIVED. GIVEN WITH THE SEED: THE CARDS: each row of YtgenojpdjplccaaDoorRows.lean that lists a variable, with what it lists TIED to the program's text (the seventh form; the later family's looks); each row that meets fmt, with fmt's text TOLD by the authors' own Lean function (tested against real Go, not proved from fmt's source: count such statements apart). THE CARD IS WHAT COUNTS. Prove the row's statement (the work); the ties are given (YtgenojpdjplccaaDoorTie.lean); close each card by the builder's one call (the guide's Derived/Test/ToyasCard.lean, 'card_holds'). Laid BY PROGRAM, IN A SANDBOX (cutbox-door.mjs). By AI agents, Wed Nov 11 2026. No macro, syntax, notation, axiom, sorry.
-/
import Derived.Test.YtgenojpdjplccaaDoorRows
import GoSem.ClaimSeven
namespace Go.Proofs.YtgenojpdjplccaaDoor
namespace Rows

/-- THE TIED CARD OF 'laws.FnTermVars'. -/
def fnTermVarsCard : Claim7 := { stood := { row := fnTermVarsRow, standIns := [], harness := (true, "be55fb1215abd5b984915abde0b0bd83bc4ef007c3e994df015ae4c98fc49622"), looks := true }, kinds := [], alts := [], laidByText := true, laidKinds := [.data, .data], laidTests := true, laidLooks := .later }
def FnTermVarsCardSaid : Prop := Claim7.holds Tryd.pinned (.plain (OpenSpec.ofChange fnTermVarsSpec)) fnTermVarsCard

/-- THE TIED CARD OF 'laws.FnTermPut'. -/
def fnTermPutCard : Claim7 := { stood := { row := fnTermPutRow, standIns := [], harness := (true, "be55fb1215abd5b984915abde0b0bd83bc4ef007c3e994df015ae4c98fc49622"), looks := true }, kinds := [], alts := [], laidByText := true, laidKinds := [.data, .data], laidTests := true, laidLooks := .later }
def FnTermPutCardSaid : Prop := Claim7.holds Tryd.pinned (.plain (OpenSpec.ofChange fnTermPutSpec)) fnTermPutCard

/-- THE TIED CARD OF 'laws.FnCondTerm'. -/
def fnCondTermCard : Claim7 := { stood := { row := fnCondTermRow, standIns := [], harness := (true, "be55fb1215abd5b984915abde0b0bd83bc4ef007c3e994df015ae4c98fc49622"), looks := true }, kinds := [], alts := [], laidByText := true, laidKinds := [.data, .data], laidTests := true, laidLooks := .later }
def FnCondTermCardSaid : Prop := Claim7.holds Tryd.pinned (.plain (OpenSpec.ofChange fnCondTermSpec)) fnCondTermCard

/-- THE TIED CARD OF 'laws.FnExactTermFold'. -/
def fnExactTermFoldCard : Claim7 := { stood := { row := fnExactTermFoldRow, standIns := [], harness := (true, "be55fb1215abd5b984915abde0b0bd83bc4ef007c3e994df015ae4c98fc49622"), looks := true }, kinds := [], alts := [], laidByText := true, laidKinds := [.data, .data], laidTests := true, laidLooks := .later }
def FnExactTermFoldCardSaid : Prop := Claim7.holds Tryd.pinned (.plain (OpenSpec.ofChange fnExactTermFoldSpec)) fnExactTermFoldCard

/-- THE TIED CARD OF 'laws.FnExactCondTerm'. -/
def fnExactCondTermCard : Claim7 := { stood := { row := fnExactCondTermRow, standIns := [], harness := (true, "be55fb1215abd5b984915abde0b0bd83bc4ef007c3e994df015ae4c98fc49622"), looks := true }, kinds := [], alts := [], laidByText := true, laidKinds := [.data, .data], laidTests := true, laidLooks := .later }
def FnExactCondTermCardSaid : Prop := Claim7.holds Tryd.pinned (.plain (OpenSpec.ofChange fnExactCondTermSpec)) fnExactCondTermCard

/-- THE TIED CARD OF 'laws.FnExactTermText'. -/
def fnExactTermTextCard : Claim7 := { stood := { row := fnExactTermTextRow, standIns := [], harness := (true, "be55fb1215abd5b984915abde0b0bd83bc4ef007c3e994df015ae4c98fc49622"), looks := true }, kinds := [], alts := [], laidByText := true, laidKinds := [.data, .data, .data, .data, .data], laidTests := true, laidLooks := .later }
def FnExactTermTextCardSaid : Prop := Claim7.holds Tryd.pinned (.plain (OpenSpec.ofChange fnExactTermTextSpec)) fnExactTermTextCard

/-- THE TIED CARD OF 'laws.FnExactTermRead'. -/
def fnExactTermReadCard : Claim7 := { stood := { row := fnExactTermReadRow, standIns := [], harness := (true, "be55fb1215abd5b984915abde0b0bd83bc4ef007c3e994df015ae4c98fc49622"), looks := true }, kinds := [], alts := [], laidByText := true, laidKinds := [.data, .data, .data, .sentinel, .sentinel, .data, .data], laidTests := true, laidLooks := .later }
def FnExactTermReadCardSaid : Prop := Claim7.holds Tryd.pinned (.plain (OpenSpec.ofChange fnExactTermReadSpec)) fnExactTermReadCard

/-- THE TIED CARD OF 'laws.FnExactTermPut'. -/
def fnExactTermPutCard : Claim7 := { stood := { row := fnExactTermPutRow, standIns := [], harness := (true, "be55fb1215abd5b984915abde0b0bd83bc4ef007c3e994df015ae4c98fc49622"), looks := true }, kinds := [], alts := [], laidByText := true, laidKinds := [.data, .data], laidTests := true, laidLooks := .later }
def FnExactTermPutCardSaid : Prop := Claim7.holds Tryd.pinned (.plain (OpenSpec.ofChange fnExactTermPutSpec)) fnExactTermPutCard

/-- THE SECOND FORM's CARD OF 'laws.FnTermVars'. -/
def fnTermVarsUptoCard : Claim7 := { stood := { row := fnTermVarsUptoRow, standIns := [], harness := (true, "be55fb1215abd5b984915abde0b0bd83bc4ef007c3e994df015ae4c98fc49622"), looks := true }, kinds := [], alts := [], laidByText := true, laidKinds := [.data, .data], laidTests := true, laidLooks := .later }
def FnTermVarsUptoCardSaid : Prop := Claim7.holds Tryd.pinned (.plain (OpenSpec.upto fnTermVarsSpec)) fnTermVarsUptoCard

/-- THE SECOND FORM's CARD OF 'laws.FnTermPut'. -/
def fnTermPutUptoCard : Claim7 := { stood := { row := fnTermPutUptoRow, standIns := [], harness := (true, "be55fb1215abd5b984915abde0b0bd83bc4ef007c3e994df015ae4c98fc49622"), looks := true }, kinds := [], alts := [], laidByText := true, laidKinds := [.data, .data], laidTests := true, laidLooks := .later }
def FnTermPutUptoCardSaid : Prop := Claim7.holds Tryd.pinned (.plain (OpenSpec.upto fnTermPutSpec)) fnTermPutUptoCard

/-- THE SECOND FORM's CARD OF 'laws.FnCondTerm'. -/
def fnCondTermUptoCard : Claim7 := { stood := { row := fnCondTermUptoRow, standIns := [], harness := (true, "be55fb1215abd5b984915abde0b0bd83bc4ef007c3e994df015ae4c98fc49622"), looks := true }, kinds := [], alts := [], laidByText := true, laidKinds := [.data, .data], laidTests := true, laidLooks := .later }
def FnCondTermUptoCardSaid : Prop := Claim7.holds Tryd.pinned (.plain (OpenSpec.upto fnCondTermSpec)) fnCondTermUptoCard

/-- THE SECOND FORM's CARD OF 'laws.FnExactTermFold'. -/
def fnExactTermFoldUptoCard : Claim7 := { stood := { row := fnExactTermFoldUptoRow, standIns := [], harness := (true, "be55fb1215abd5b984915abde0b0bd83bc4ef007c3e994df015ae4c98fc49622"), looks := true }, kinds := [], alts := [], laidByText := true, laidKinds := [.data, .data], laidTests := true, laidLooks := .later }
def FnExactTermFoldUptoCardSaid : Prop := Claim7.holds Tryd.pinned (.plain (OpenSpec.upto fnExactTermFoldSpec)) fnExactTermFoldUptoCard

/-- THE SECOND FORM's CARD OF 'laws.FnExactCondTerm'. -/
def fnExactCondTermUptoCard : Claim7 := { stood := { row := fnExactCondTermUptoRow, standIns := [], harness := (true, "be55fb1215abd5b984915abde0b0bd83bc4ef007c3e994df015ae4c98fc49622"), looks := true }, kinds := [], alts := [], laidByText := true, laidKinds := [.data, .data], laidTests := true, laidLooks := .later }
def FnExactCondTermUptoCardSaid : Prop := Claim7.holds Tryd.pinned (.plain (OpenSpec.upto fnExactCondTermSpec)) fnExactCondTermUptoCard

/-- THE SECOND FORM's CARD OF 'laws.FnExactTermText'. -/
def fnExactTermTextUptoCard : Claim7 := { stood := { row := fnExactTermTextUptoRow, standIns := [], harness := (true, "be55fb1215abd5b984915abde0b0bd83bc4ef007c3e994df015ae4c98fc49622"), looks := true }, kinds := [], alts := [], laidByText := true, laidKinds := [.data, .data, .data, .data, .data], laidTests := true, laidLooks := .later }
def FnExactTermTextUptoCardSaid : Prop := Claim7.holds Tryd.pinned (.plain (OpenSpec.upto fnExactTermTextSpec)) fnExactTermTextUptoCard

/-- THE SECOND FORM's CARD OF 'laws.FnExactTermRead'. -/
def fnExactTermReadUptoCard : Claim7 := { stood := { row := fnExactTermReadUptoRow, standIns := [], harness := (true, "be55fb1215abd5b984915abde0b0bd83bc4ef007c3e994df015ae4c98fc49622"), looks := true }, kinds := [], alts := [], laidByText := true, laidKinds := [.data, .data, .data, .sentinel, .sentinel, .data, .data], laidTests := true, laidLooks := .later }
def FnExactTermReadUptoCardSaid : Prop := Claim7.holds Tryd.pinned (.plain (OpenSpec.upto fnExactTermReadSpec)) fnExactTermReadUptoCard

/-- THE SECOND FORM's CARD OF 'laws.FnExactTermPut'. -/
def fnExactTermPutUptoCard : Claim7 := { stood := { row := fnExactTermPutUptoRow, standIns := [], harness := (true, "be55fb1215abd5b984915abde0b0bd83bc4ef007c3e994df015ae4c98fc49622"), looks := true }, kinds := [], alts := [], laidByText := true, laidKinds := [.data, .data], laidTests := true, laidLooks := .later }
def FnExactTermPutUptoCardSaid : Prop := Claim7.holds Tryd.pinned (.plain (OpenSpec.upto fnExactTermPutSpec)) fnExactTermPutUptoCard
end Rows
end Go.Proofs.YtgenojpdjplccaaDoor
