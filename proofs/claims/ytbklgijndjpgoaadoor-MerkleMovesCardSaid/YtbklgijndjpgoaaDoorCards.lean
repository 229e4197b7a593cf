/-
  DERIVED. GIVEN WITH THE SEED: THE CARDS: each row of YtbklgijndjpgoaaDoorRows.lean that lists a variable, with what it lists TIED to the program's text (the seventh form; the later family's looks); each row that meets fmt, with fmt's text TOLD by the authors' own Lean function (tested against real Go, not proved from fmt's source: count such statements apart). THE CARD IS WHAT COUNTS. Prove the row's statement (the work); the ties are given (YtbklgijndjpgoaaDoorTie.lean); close each card by the builder's one call (the guide's Derived/Test/ToyasCard.lean, 'card_holds'). Laid BY PROGRAM, IN A SANDBOX (cutbox-door.mjs). By AI agents, Wed Nov 11 2026. No macro, syntax, notation, axiom, sorry.
-/
import Derived.Test.YtbklgijndjpgoaaDoorRows
import GoSem.ClaimSeven
namespace Go.Proofs.YtbklgijndjpgoaaDoor
namespace Rows

/-- THE TIED CARD OF 'flittinglaw12.MerklePrints'. -/
def merklePrintsCard : Claim7 := { stood := { row := merklePrintsRow, standIns := [], harness := (true, "682433373b858fe398425d8f3b0abe6af6fb32720d7450e97df40ac0b598ba8c"), looks := false }, kinds := [], alts := [], laidByText := true, laidKinds := [.data, .pinned], laidTests := true, laidLooks := .later }
def MerklePrintsCardSaid : Prop := Claim7.holds Tryd.pinned (.plain (OpenSpec.ofChange merklePrintsSpec)) merklePrintsCard

/-- THE TIED CARD OF 'flittinglaw12.MerkleLike'. -/
def merkleLikeCard : Claim7 := { stood := { row := merkleLikeRow, standIns := [], harness := (true, "682433373b858fe398425d8f3b0abe6af6fb32720d7450e97df40ac0b598ba8c"), looks := false }, kinds := [], alts := [], laidByText := true, laidKinds := [.data, .pinned], laidTests := true, laidLooks := .later }
def MerkleLikeCardSaid : Prop := Claim7.holds Tryd.pinned (.plain (OpenSpec.ofChange merkleLikeSpec)) merkleLikeCard

/-- THE TIED CARD OF 'flittinglaw12.MerkleMoves'. -/
def merkleMovesCard : Claim7 := { stood := { row := merkleMovesRow, standIns := [], harness := (true, "682433373b858fe398425d8f3b0abe6af6fb32720d7450e97df40ac0b598ba8c"), looks := false }, kinds := [], alts := [], laidByText := true, laidKinds := [.data, .pinned], laidTests := true, laidLooks := .later }
def MerkleMovesCardSaid : Prop := Claim7.holds Tryd.pinned (.plain (OpenSpec.ofChange merkleMovesSpec)) merkleMovesCard

/-- THE SECOND FORM's CARD OF 'flittinglaw12.MerklePrints'. -/
def merklePrintsUptoCard : Claim7 := { stood := { row := merklePrintsUptoRow, standIns := [], harness := (true, "682433373b858fe398425d8f3b0abe6af6fb32720d7450e97df40ac0b598ba8c"), looks := false }, kinds := [], alts := [], laidByText := true, laidKinds := [.data, .pinned], laidTests := true, laidLooks := .later }
def MerklePrintsUptoCardSaid : Prop := Claim7.holds Tryd.pinned (.plain (OpenSpec.upto merklePrintsSpec)) merklePrintsUptoCard

/-- THE SECOND FORM's CARD OF 'flittinglaw12.MerkleLike'. -/
def merkleLikeUptoCard : Claim7 := { stood := { row := merkleLikeUptoRow, standIns := [], harness := (true, "682433373b858fe398425d8f3b0abe6af6fb32720d7450e97df40ac0b598ba8c"), looks := false }, kinds := [], alts := [], laidByText := true, laidKinds := [.data, .pinned], laidTests := true, laidLooks := .later }
def MerkleLikeUptoCardSaid : Prop := Claim7.holds Tryd.pinned (.plain (OpenSpec.upto merkleLikeSpec)) merkleLikeUptoCard

/-- THE SECOND FORM's CARD OF 'flittinglaw12.MerkleMoves'. -/
def merkleMovesUptoCard : Claim7 := { stood := { row := merkleMovesUptoRow, standIns := [], harness := (true, "682433373b858fe398425d8f3b0abe6af6fb32720d7450e97df40ac0b598ba8c"), looks := false }, kinds := [], alts := [], laidByText := true, laidKinds := [.data, .pinned], laidTests := true, laidLooks := .later }
def MerkleMovesUptoCardSaid : Prop := Claim7.holds Tryd.pinned (.plain (OpenSpec.upto merkleMovesSpec)) merkleMovesUptoCard
end Rows
end Go.Proofs.YtbklgijndjpgoaaDoor
