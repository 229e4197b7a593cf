/-
  DERIVED. GIVEN WITH THE SEED: THE CARDS: each row of YthmiffjhchhljaaDoorRows.lean that lists a variable, with what it lists TIED to the program's text (the seventh form; the later family's looks); each row that meets fmt, with fmt's text TOLD by the authors' own Lean function (tested against real Go, not proved from fmt's source: count such statements apart). THE CARD IS WHAT COUNTS. Prove the row's statement (the work); the ties are given (YthmiffjhchhljaaDoorTie.lean); close each card by the builder's one call (the guide's Derived/Test/ToyasCard.lean, 'card_holds'). Laid BY PROGRAM, IN A SANDBOX (cutbox-door.mjs). By AI agents, Wed Nov 11 2026. No macro, syntax, notation, axiom, sorry.
-/
import Derived.Test.YthmiffjhchhljaaDoorRows
import GoSem.ClaimSeven
namespace Go.Proofs.YthmiffjhchhljaaDoor
namespace Rows

/-- THE TIED CARD OF 'flittinglaw01.PathsParts'. -/
def pathsPartsCard : Claim7 := { stood := { row := pathsPartsRow, standIns := [], harness := (true, "471ee15995f6c0a8c22d857960c0e6fa9ce36e345c325b7eb724c8ad87863cb5"), looks := false }, kinds := [], alts := [], laidByText := true, laidKinds := [.data, .pinned], laidTests := true, laidLooks := .later }
def PathsPartsCardSaid : Prop := Claim7.holds Tryd.pinned (.plain (OpenSpec.ofChange pathsPartsSpec)) pathsPartsCard

/-- THE TIED CARD OF 'flittinglaw01.PathsJoins'. -/
def pathsJoinsCard : Claim7 := { stood := { row := pathsJoinsRow, standIns := [], harness := (true, "471ee15995f6c0a8c22d857960c0e6fa9ce36e345c325b7eb724c8ad87863cb5"), looks := false }, kinds := [], alts := [], laidByText := true, laidKinds := [.data, .pinned], laidTests := true, laidLooks := .later }
def PathsJoinsCardSaid : Prop := Claim7.holds Tryd.pinned (.plain (OpenSpec.ofChange pathsJoinsSpec)) pathsJoinsCard

/-- THE TIED CARD OF 'flittinglaw01.PathsMoves'. -/
def pathsMovesCard : Claim7 := { stood := { row := pathsMovesRow, standIns := [], harness := (true, "471ee15995f6c0a8c22d857960c0e6fa9ce36e345c325b7eb724c8ad87863cb5"), looks := false }, kinds := [], alts := [], laidByText := true, laidKinds := [.data, .pinned], laidTests := true, laidLooks := .later }
def PathsMovesCardSaid : Prop := Claim7.holds Tryd.pinned (.plain (OpenSpec.ofChange pathsMovesSpec)) pathsMovesCard

/-- THE TIED CARD OF 'flittinglaw01.PathsOrder'. -/
def pathsOrderCard : Claim7 := { stood := { row := pathsOrderRow, standIns := [], harness := (true, "471ee15995f6c0a8c22d857960c0e6fa9ce36e345c325b7eb724c8ad87863cb5"), looks := false }, kinds := [], alts := [], laidByText := true, laidKinds := [.data, .pinned], laidTests := true, laidLooks := .later }
def PathsOrderCardSaid : Prop := Claim7.holds Tryd.pinned (.plain (OpenSpec.ofChange pathsOrderSpec)) pathsOrderCard

/-- THE TIED CARD OF 'flittinglaw01.PathsTogether'. -/
def pathsTogetherCard : Claim7 := { stood := { row := pathsTogetherRow, standIns := [], harness := (true, "471ee15995f6c0a8c22d857960c0e6fa9ce36e345c325b7eb724c8ad87863cb5"), looks := false }, kinds := [], alts := [], laidByText := true, laidKinds := [.data, .pinned], laidTests := true, laidLooks := .later }
def PathsTogetherCardSaid : Prop := Claim7.holds Tryd.pinned (.plain (OpenSpec.ofChange pathsTogetherSpec)) pathsTogetherCard

/-- THE TIED CARD OF 'flittinglaw03.RuleChecks'. -/
def ruleChecksCard : Claim7 := { stood := { row := ruleChecksRow, standIns := [], harness := (true, "471ee15995f6c0a8c22d857960c0e6fa9ce36e345c325b7eb724c8ad87863cb5"), looks := false }, kinds := [], alts := [], laidByText := true, laidKinds := [.data, .pinned], laidTests := true, laidLooks := .later }
def RuleChecksCardSaid : Prop := Claim7.holds Tryd.pinned (.plain (OpenSpec.ofChange ruleChecksSpec)) ruleChecksCard

/-- THE TIED CARD OF 'flittinglaw03.RuleKeeps'. -/
def ruleKeepsCard : Claim7 := { stood := { row := ruleKeepsRow, standIns := [], harness := (true, "471ee15995f6c0a8c22d857960c0e6fa9ce36e345c325b7eb724c8ad87863cb5"), looks := false }, kinds := [], alts := [], laidByText := true, laidKinds := [.data, .pinned], laidTests := true, laidLooks := .later }
def RuleKeepsCardSaid : Prop := Claim7.holds Tryd.pinned (.plain (OpenSpec.ofChange ruleKeepsSpec)) ruleKeepsCard

/-- THE TIED CARD OF 'flittinglaw03.RuleUnder'. -/
def ruleUnderCard : Claim7 := { stood := { row := ruleUnderRow, standIns := [], harness := (true, "471ee15995f6c0a8c22d857960c0e6fa9ce36e345c325b7eb724c8ad87863cb5"), looks := false }, kinds := [], alts := [], laidByText := true, laidKinds := [.data, .pinned], laidTests := true, laidLooks := .later }
def RuleUnderCardSaid : Prop := Claim7.holds Tryd.pinned (.plain (OpenSpec.ofChange ruleUnderSpec)) ruleUnderCard

/-- THE TIED CARD OF 'flittinglaw03.RuleTexts'. -/
def ruleTextsCard : Claim7 := { stood := { row := ruleTextsRow, standIns := [], harness := (true, "471ee15995f6c0a8c22d857960c0e6fa9ce36e345c325b7eb724c8ad87863cb5"), looks := false }, kinds := [], alts := [], laidByText := true, laidKinds := [.data, .pinned], laidTests := true, laidLooks := .later }
def RuleTextsCardSaid : Prop := Claim7.holds Tryd.pinned (.plain (OpenSpec.ofChange ruleTextsSpec)) ruleTextsCard

/-- THE SECOND FORM's CARD OF 'flittinglaw01.PathsParts'. -/
def pathsPartsUptoCard : Claim7 := { stood := { row := pathsPartsUptoRow, standIns := [], harness := (true, "471ee15995f6c0a8c22d857960c0e6fa9ce36e345c325b7eb724c8ad87863cb5"), looks := false }, kinds := [], alts := [], laidByText := true, laidKinds := [.data, .pinned], laidTests := true, laidLooks := .later }
def PathsPartsUptoCardSaid : Prop := Claim7.holds Tryd.pinned (.plain (OpenSpec.upto pathsPartsSpec)) pathsPartsUptoCard

/-- THE SECOND FORM's CARD OF 'flittinglaw01.PathsJoins'. -/
def pathsJoinsUptoCard : Claim7 := { stood := { row := pathsJoinsUptoRow, standIns := [], harness := (true, "471ee15995f6c0a8c22d857960c0e6fa9ce36e345c325b7eb724c8ad87863cb5"), looks := false }, kinds := [], alts := [], laidByText := true, laidKinds := [.data, .pinned], laidTests := true, laidLooks := .later }
def PathsJoinsUptoCardSaid : Prop := Claim7.holds Tryd.pinned (.plain (OpenSpec.upto pathsJoinsSpec)) pathsJoinsUptoCard

/-- THE SECOND FORM's CARD OF 'flittinglaw01.PathsMoves'. -/
def pathsMovesUptoCard : Claim7 := { stood := { row := pathsMovesUptoRow, standIns := [], harness := (true, "471ee15995f6c0a8c22d857960c0e6fa9ce36e345c325b7eb724c8ad87863cb5"), looks := false }, kinds := [], alts := [], laidByText := true, laidKinds := [.data, .pinned], laidTests := true, laidLooks := .later }
def PathsMovesUptoCardSaid : Prop := Claim7.holds Tryd.pinned (.plain (OpenSpec.upto pathsMovesSpec)) pathsMovesUptoCard

/-- THE SECOND FORM's CARD OF 'flittinglaw01.PathsOrder'. -/
def pathsOrderUptoCard : Claim7 := { stood := { row := pathsOrderUptoRow, standIns := [], harness := (true, "471ee15995f6c0a8c22d857960c0e6fa9ce36e345c325b7eb724c8ad87863cb5"), looks := false }, kinds := [], alts := [], laidByText := true, laidKinds := [.data, .pinned], laidTests := true, laidLooks := .later }
def PathsOrderUptoCardSaid : Prop := Claim7.holds Tryd.pinned (.plain (OpenSpec.upto pathsOrderSpec)) pathsOrderUptoCard

/-- THE SECOND FORM's CARD OF 'flittinglaw01.PathsTogether'. -/
def pathsTogetherUptoCard : Claim7 := { stood := { row := pathsTogetherUptoRow, standIns := [], harness := (true, "471ee15995f6c0a8c22d857960c0e6fa9ce36e345c325b7eb724c8ad87863cb5"), looks := false }, kinds := [], alts := [], laidByText := true, laidKinds := [.data, .pinned], laidTests := true, laidLooks := .later }
def PathsTogetherUptoCardSaid : Prop := Claim7.holds Tryd.pinned (.plain (OpenSpec.upto pathsTogetherSpec)) pathsTogetherUptoCard

/-- THE SECOND FORM's CARD OF 'flittinglaw03.RuleChecks'. -/
def ruleChecksUptoCard : Claim7 := { stood := { row := ruleChecksUptoRow, standIns := [], harness := (true, "471ee15995f6c0a8c22d857960c0e6fa9ce36e345c325b7eb724c8ad87863cb5"), looks := false }, kinds := [], alts := [], laidByText := true, laidKinds := [.data, .pinned], laidTests := true, laidLooks := .later }
def RuleChecksUptoCardSaid : Prop := Claim7.holds Tryd.pinned (.plain (OpenSpec.upto ruleChecksSpec)) ruleChecksUptoCard

/-- THE SECOND FORM's CARD OF 'flittinglaw03.RuleKeeps'. -/
def ruleKeepsUptoCard : Claim7 := { stood := { row := ruleKeepsUptoRow, standIns := [], harness := (true, "471ee15995f6c0a8c22d857960c0e6fa9ce36e345c325b7eb724c8ad87863cb5"), looks := false }, kinds := [], alts := [], laidByText := true, laidKinds := [.data, .pinned], laidTests := true, laidLooks := .later }
def RuleKeepsUptoCardSaid : Prop := Claim7.holds Tryd.pinned (.plain (OpenSpec.upto ruleKeepsSpec)) ruleKeepsUptoCard

/-- THE SECOND FORM's CARD OF 'flittinglaw03.RuleUnder'. -/
def ruleUnderUptoCard : Claim7 := { stood := { row := ruleUnderUptoRow, standIns := [], harness := (true, "471ee15995f6c0a8c22d857960c0e6fa9ce36e345c325b7eb724c8ad87863cb5"), looks := false }, kinds := [], alts := [], laidByText := true, laidKinds := [.data, .pinned], laidTests := true, laidLooks := .later }
def RuleUnderUptoCardSaid : Prop := Claim7.holds Tryd.pinned (.plain (OpenSpec.upto ruleUnderSpec)) ruleUnderUptoCard

/-- THE SECOND FORM's CARD OF 'flittinglaw03.RuleTexts'. -/
def ruleTextsUptoCard : Claim7 := { stood := { row := ruleTextsUptoRow, standIns := [], harness := (true, "471ee15995f6c0a8c22d857960c0e6fa9ce36e345c325b7eb724c8ad87863cb5"), looks := false }, kinds := [], alts := [], laidByText := true, laidKinds := [.data, .pinned], laidTests := true, laidLooks := .later }
def RuleTextsUptoCardSaid : Prop := Claim7.holds Tryd.pinned (.plain (OpenSpec.upto ruleTextsSpec)) ruleTextsUptoCard
end Rows
end Go.Proofs.YthmiffjhchhljaaDoor
