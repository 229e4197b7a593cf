/-
  DERIVED. GIVEN WITH THE SEED: THE CARDS: each row of YtlohoamhgioheaaDoorRows.lean that lists a variable, with what it lists TIED to the program's text (the seventh form; the later family's looks); each row that meets fmt, with fmt's text TOLD by the authors' own Lean function (tested against real Go, not proved from fmt's source: count such statements apart). THE CARD IS WHAT COUNTS. Prove the row's statement (the work); the ties are given (YtlohoamhgioheaaDoorTie.lean); close each card by the builder's one call (the guide's Derived/Test/ToyasCard.lean, 'card_holds'). Laid BY PROGRAM, IN A SANDBOX (cutbox-door.mjs). By AI agents, Wed Nov 11 2026. No macro, syntax, notation, axiom, sorry.
-/
import Derived.Test.YtlohoamhgioheaaDoorRows
import GoSem.ClaimSeven
namespace Go.Proofs.YtlohoamhgioheaaDoor
namespace Rows

/-- THE TIED CARD OF 'flittinglaw28.EditLines'. -/
def editLinesCard : Claim7 := { stood := { row := editLinesRow, standIns := [], harness := (true, "8e58ea8d54fbd332f69d81d6cd81a46dabac16719a58d5c583476f2f2df09866"), looks := true }, kinds := [], alts := [], laidByText := true, laidKinds := [.data, .data, .data, .data, .sentinel, .sentinel, .data, .data, .pinned], laidTests := true, laidLooks := .later }
def EditLinesCardSaid : Prop := Claim7.holds Tryd.pinned (.plain (OpenSpec.ofChange editLinesSpec)) editLinesCard

/-- THE TIED CARD OF 'flittinglaw28.EditTexts'. -/
def editTextsCard : Claim7 := { stood := { row := editTextsRow, standIns := [], harness := (true, "8e58ea8d54fbd332f69d81d6cd81a46dabac16719a58d5c583476f2f2df09866"), looks := true }, kinds := [], alts := [], laidByText := true, laidKinds := [.data, .data, .data, .data, .sentinel, .sentinel, .data, .data, .pinned], laidTests := true, laidLooks := .later }
def EditTextsCardSaid : Prop := Claim7.holds Tryd.pinned (.plain (OpenSpec.ofChange editTextsSpec)) editTextsCard

/-- THE TIED CARD OF 'flittinglaw28.EditCounts'. -/
def editCountsCard : Claim7 := { stood := { row := editCountsRow, standIns := [], harness := (true, "8e58ea8d54fbd332f69d81d6cd81a46dabac16719a58d5c583476f2f2df09866"), looks := true }, kinds := [], alts := [], laidByText := true, laidKinds := [.data, .data, .data, .data, .data, .data, .pinned], laidTests := true, laidLooks := .later }
def EditCountsCardSaid : Prop := Claim7.holds Tryd.pinned (.plain (OpenSpec.ofChange editCountsSpec)) editCountsCard

/-- THE SECOND FORM's CARD OF 'flittinglaw28.EditLines'. -/
def editLinesUptoCard : Claim7 := { stood := { row := editLinesUptoRow, standIns := [], harness := (true, "8e58ea8d54fbd332f69d81d6cd81a46dabac16719a58d5c583476f2f2df09866"), looks := true }, kinds := [], alts := [], laidByText := true, laidKinds := [.data, .data, .data, .data, .sentinel, .sentinel, .data, .data, .pinned], laidTests := true, laidLooks := .later }
def EditLinesUptoCardSaid : Prop := Claim7.holds Tryd.pinned (.plain (OpenSpec.upto editLinesSpec)) editLinesUptoCard

/-- THE SECOND FORM's CARD OF 'flittinglaw28.EditTexts'. -/
def editTextsUptoCard : Claim7 := { stood := { row := editTextsUptoRow, standIns := [], harness := (true, "8e58ea8d54fbd332f69d81d6cd81a46dabac16719a58d5c583476f2f2df09866"), looks := true }, kinds := [], alts := [], laidByText := true, laidKinds := [.data, .data, .data, .data, .sentinel, .sentinel, .data, .data, .pinned], laidTests := true, laidLooks := .later }
def EditTextsUptoCardSaid : Prop := Claim7.holds Tryd.pinned (.plain (OpenSpec.upto editTextsSpec)) editTextsUptoCard

/-- THE SECOND FORM's CARD OF 'flittinglaw28.EditCounts'. -/
def editCountsUptoCard : Claim7 := { stood := { row := editCountsUptoRow, standIns := [], harness := (true, "8e58ea8d54fbd332f69d81d6cd81a46dabac16719a58d5c583476f2f2df09866"), looks := true }, kinds := [], alts := [], laidByText := true, laidKinds := [.data, .data, .data, .data, .data, .data, .pinned], laidTests := true, laidLooks := .later }
def EditCountsUptoCardSaid : Prop := Claim7.holds Tryd.pinned (.plain (OpenSpec.upto editCountsSpec)) editCountsUptoCard
end Rows
end Go.Proofs.YtlohoamhgioheaaDoor
