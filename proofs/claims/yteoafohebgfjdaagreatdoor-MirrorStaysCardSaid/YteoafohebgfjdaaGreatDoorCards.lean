/-
  DERIVED. GIVEN WITH THE SEED: THE CARDS: each row of YteoafohebgfjdaaGreatDoorRows.lean that lists a variable, with what it lists TIED to the program's text (the seventh form; the later family's looks); each row that meets fmt, with fmt's text TOLD by the authors' own Lean function (tested against real Go, not proved from fmt's source: count such statements apart). THE CARD IS WHAT COUNTS. Prove the row's statement (the work); the ties are given (YteoafohebgfjdaaGreatDoorTie.lean); close each card by the builder's one call (the guide's Derived/Test/ToyasCard.lean, 'card_holds'). Laid BY PROGRAM, IN A SANDBOX (cutbox-door.mjs). By AI agents, Wed Nov 11 2026. No macro, syntax, notation, axiom, sorry.
-/
import Derived.Test.YteoafohebgfjdaaGreatDoorRows
import GoSem.ClaimSeven
namespace Go.Proofs.YteoafohebgfjdaaGreatDoor
namespace Rows

/-- THE TIED CARD OF 'flittinglaw14.MirrorLeft'. -/
def mirrorLeftCard : Claim7 := { stood := { row := mirrorLeftRow, standIns := [], harness := (true, "97ba3fafd8bd9240b511904878f0b17bec39dd042a237fb6bb9cbf1ef9d46c6e"), looks := false }, kinds := [], alts := [], laidByText := true, laidKinds := [.data, .pinned], laidTests := true, laidLooks := .later }
def MirrorLeftCardSaid : Prop := Claim7.holds Tryz.pinned (.plain (OpenSpec.ofChange mirrorLeftSpec)) mirrorLeftCard

/-- THE TIED CARD OF 'flittinglaw14.MirrorStays'. -/
def mirrorStaysCard : Claim7 := { stood := { row := mirrorStaysRow, standIns := [], harness := (true, "97ba3fafd8bd9240b511904878f0b17bec39dd042a237fb6bb9cbf1ef9d46c6e"), looks := false }, kinds := [], alts := [], laidByText := true, laidKinds := [.data, .pinned], laidTests := true, laidLooks := .later }
def MirrorStaysCardSaid : Prop := Claim7.holds Tryz.pinned (.plain (OpenSpec.ofChange mirrorStaysSpec)) mirrorStaysCard

/-- THE TIED CARD OF 'flittinglaw14.MirrorPlain'. -/
def mirrorPlainCard : Claim7 := { stood := { row := mirrorPlainRow, standIns := [], harness := (true, "97ba3fafd8bd9240b511904878f0b17bec39dd042a237fb6bb9cbf1ef9d46c6e"), looks := false }, kinds := [], alts := [], laidByText := true, laidKinds := [.data, .pinned], laidTests := true, laidLooks := .later }
def MirrorPlainCardSaid : Prop := Claim7.holds Tryz.pinned (.plain (OpenSpec.ofChange mirrorPlainSpec)) mirrorPlainCard

/-- THE SECOND FORM's CARD OF 'flittinglaw14.MirrorLeft'. -/
def mirrorLeftUptoCard : Claim7 := { stood := { row := mirrorLeftUptoRow, standIns := [], harness := (true, "97ba3fafd8bd9240b511904878f0b17bec39dd042a237fb6bb9cbf1ef9d46c6e"), looks := false }, kinds := [], alts := [], laidByText := true, laidKinds := [.data, .pinned], laidTests := true, laidLooks := .later }
def MirrorLeftUptoCardSaid : Prop := Claim7.holds Tryz.pinned (.plain (OpenSpec.upto mirrorLeftSpec)) mirrorLeftUptoCard

/-- THE SECOND FORM's CARD OF 'flittinglaw14.MirrorStays'. -/
def mirrorStaysUptoCard : Claim7 := { stood := { row := mirrorStaysUptoRow, standIns := [], harness := (true, "97ba3fafd8bd9240b511904878f0b17bec39dd042a237fb6bb9cbf1ef9d46c6e"), looks := false }, kinds := [], alts := [], laidByText := true, laidKinds := [.data, .pinned], laidTests := true, laidLooks := .later }
def MirrorStaysUptoCardSaid : Prop := Claim7.holds Tryz.pinned (.plain (OpenSpec.upto mirrorStaysSpec)) mirrorStaysUptoCard

/-- THE SECOND FORM's CARD OF 'flittinglaw14.MirrorPlain'. -/
def mirrorPlainUptoCard : Claim7 := { stood := { row := mirrorPlainUptoRow, standIns := [], harness := (true, "97ba3fafd8bd9240b511904878f0b17bec39dd042a237fb6bb9cbf1ef9d46c6e"), looks := false }, kinds := [], alts := [], laidByText := true, laidKinds := [.data, .pinned], laidTests := true, laidLooks := .later }
def MirrorPlainUptoCardSaid : Prop := Claim7.holds Tryz.pinned (.plain (OpenSpec.upto mirrorPlainSpec)) mirrorPlainUptoCard
end Rows
end Go.Proofs.YteoafohebgfjdaaGreatDoor
